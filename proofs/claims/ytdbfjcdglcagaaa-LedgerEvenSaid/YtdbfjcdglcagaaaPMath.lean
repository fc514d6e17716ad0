/- Accounts and books as plain lists; what each call makes of them; nothing of the program; no condition. -/
import Derived.Test.YtdbfjcdglcagaaaPMap
namespace Go.Proofs.Ytdbfjcdglcagaaa
open Go.RowKit
namespace Bk
/-- An account: given, own, lent, done, cut, late. -/
structure Ac where
  g : Int
  o : Int
  l : Int
  d : Int
  c : Int
  t : Int
deriving DecidableEq
/-- An open account: its handle, its parent's, the account, what was closed below it. -/
structure Ln where
  h : Int
  p : Int
  a : Ac
  c : Ac
deriving DecidableEq
def z6 : Ac := ⟨0, 0, 0, 0, 0, 0⟩
abbrev aV (a : Ac) : Value := .agg #[.int .i64 a.g, .int .i64 a.o, .int .i64 a.l, .int .i64 a.d, .int .i64 a.c, .int .i64 a.t]
abbrev pV (x : Ln) : Value := .agg #[.int .i64 x.p, .int .i64 x.a.g, .int .i64 x.a.o, .int .i64 x.a.l, .int .i64 x.a.d, .int .i64 x.a.c, .int .i64 x.a.t, .int .i64 x.c.g, .int .i64 x.c.o, .int .i64 x.c.l, .int .i64 x.c.d, .int .i64 x.c.c, .int .i64 x.c.t]
abbrev lV (x : Ln) : Value := .agg #[.int .i64 x.h, .int .i64 x.p, .int .i64 x.a.g, .int .i64 x.a.o, .int .i64 x.a.l, .int .i64 x.a.d, .int .i64 x.a.c, .int .i64 x.a.t, .int .i64 x.c.g, .int .i64 x.c.o, .int .i64 x.c.l, .int .i64 x.c.d, .int .i64 x.c.c, .int .i64 x.c.t]

/-- The one of a handle. -/
def getB : List Ln → Int → Option Ln
  | [], _ => none
  | x :: r, h => if x.h = h then some x else getB r h
/-- Its place. -/
def plc : List Ln → Int → Option Nat
  | [], _ => none
  | x :: r, h => if x.h = h then some 0 else (plc r h).map (· + 1)
theorem plc_some {h : Int} : ∀ {L : List Ln} {k : Nat}, plc L h = some k → ∃ hk : k < L.length, L[k].h = h ∧ getB L h = some L[k] ∧ ∀ j (hj : j < L.length), j < k → L[j].h ≠ h
  | [], k, e => by simp [plc] at e
  | x :: r, k, e => by
    unfold plc at e
    unfold getB
    split at e
    · rename_i hx
      cases e
      exact ⟨by simp, hx, by rw [if_pos hx]; rfl, fun j _ hj => by omega⟩
    · rename_i hx
      cases hp : plc r h with
      | none => rw [hp] at e; simp at e
      | some m =>
        rw [hp] at e
        simp at e
        subst e
        obtain ⟨h1, h2, h3, h4⟩ := plc_some hp
        refine ⟨by simp; omega, h2, by rw [if_neg hx]; exact h3, fun j hj hlt => ?_⟩
        cases j with
        | zero => exact hx
        | succ j => exact h4 j (by simpa using hj) (by omega)
theorem plc_none {h : Int} : ∀ {L : List Ln}, plc L h = none → getB L h = none ∧ ∀ x ∈ L, x.h ≠ h
  | [], _ => ⟨rfl, by simp⟩
  | x :: r, e => by
    unfold plc at e
    split at e
    · cases e
    · rename_i hx
      cases hp : plc r h with
      | some m => rw [hp] at e; simp at e
      | none =>
        obtain ⟨h1, h2⟩ := plc_none hp
        refine ⟨by unfold getB; rw [if_neg hx]; exact h1, fun y hy => ?_⟩
        rcases List.mem_cons.1 hy with rfl | hy
        · exact hx
        · exact h2 y hy
theorem plc_of_get {L : List Ln} {h : Int} {x : Ln} (e : getB L h = some x) : ∃ k, plc L h = some k := by
  cases hp : plc L h with
  | none => rw [(plc_none hp).1] at e; cases e
  | some k => exact ⟨k, rfl⟩
theorem get_some {h : Int} {L : List Ln} {x : Ln} (e : getB L h = some x) : x.h = h ∧ x ∈ L := by
  obtain ⟨k, hk⟩ := plc_of_get e
  obtain ⟨h1, h2, h3, _⟩ := plc_some hk
  rw [h3] at e
  cases e
  exact ⟨h2, List.getElem_mem h1⟩
theorem get_none {h : Int} {L : List Ln} (e : getB L h = none) : ∀ x ∈ L, x.h ≠ h := by
  cases hp : plc L h with
  | none => exact (plc_none hp).2
  | some k => rw [(plc_some hp).2.2.1] at e; cases e
/-- No handle twice. -/
def Nd (L : List Ln) : Prop := (L.map (·.h)).Nodup
theorem get_mem {L : List Ln} (hn : Nd L) {x : Ln} (hx : x ∈ L) : getB L x.h = some x := by
  induction L with
  | nil => cases hx
  | cons y r ih =>
    unfold Nd at hn
    rw [List.map_cons, List.nodup_cons] at hn
    unfold getB
    rcases List.mem_cons.1 hx with rfl | hx
    · rw [if_pos rfl]
    · rw [if_neg (fun e => hn.1 (by rw [e]; exact List.mem_map_of_mem hx))]
      exact ih hn.2 hx
theorem get_app {h : Int} : ∀ (L : List Ln) (x : Ln), getB (L ++ [x]) h = (getB L h).or (if x.h = h then some x else none)
  | [], x => by simp [getB]
  | y :: r, x => by
    show (if y.h = h then some y else getB (r ++ [x]) h) = (if y.h = h then some y else getB r h).or _
    split
    · rfl
    · exact get_app r x
/-- The one of a handle turned. -/
def updB (L : List Ln) (h : Int) (f : Ln → Ln) : List Ln := L.map fun x => if x.h = h then f x else x
theorem upd_len (L : List Ln) (h : Int) (f : Ln → Ln) : (updB L h f).length = L.length := by simp [updB]
theorem get_upd {f : Ln → Ln} (hf : ∀ x, (f x).h = x.h) (h y : Int) : ∀ L : List Ln, getB (updB L h f) y = if y = h then (getB L h).map f else getB L y
  | [] => by simp [updB, getB]
  | x :: r => by
    have ih := get_upd hf h y r
    unfold updB at ih ⊢
    rw [List.map_cons]
    show (if (if x.h = h then f x else x).h = y then some (if x.h = h then f x else x) else getB _ y) = _
    rw [ih]
    have e1 : (if x.h = h then f x else x).h = x.h := by split; exact hf x; rfl
    rw [e1]
    by_cases e : y = h
    · subst e
      rw [if_pos rfl, if_pos rfl]
      show _ = (if x.h = y then some x else getB r y).map f
      by_cases e2 : x.h = y
      · rw [if_pos e2, if_pos e2, if_pos e2]; rfl
      · rw [if_neg e2, if_neg e2]
    · rw [if_neg e, if_neg e]
      show _ = if x.h = y then some x else getB r y
      by_cases e2 : x.h = y
      · rw [if_pos e2, if_pos e2, if_neg (fun k => e (e2.symm.trans k))]
      · rw [if_neg e2, if_neg e2]
theorem upd_handles {f : Ln → Ln} (hf : ∀ x, (f x).h = x.h) (L : List Ln) (h : Int) : (updB L h f).map (·.h) = L.map (·.h) := by
  unfold updB
  rw [List.map_map]
  refine List.map_congr_left fun x _ => ?_
  show (if x.h = h then f x else x).h = x.h
  split
  · exact hf x
  · rfl
theorem plc_handles {h : Int} : ∀ {L M : List Ln}, L.map (·.h) = M.map (·.h) → plc L h = plc M h
  | [], [], _ => rfl
  | [], _ :: _, e => by simp at e
  | _ :: _, [], e => by simp at e
  | x :: r, y :: s, e => by
    simp only [List.map_cons, List.cons.injEq] at e
    unfold plc
    rw [e.1, plc_handles e.2]
theorem upd_set {L : List Ln} (hn : Nd L) {h : Int} {k : Nat} (hk : plc L h = some k) (f : Ln → Ln) : ∃ hl : k < L.length, updB L h f = L.set k (f L[k]) := by
  obtain ⟨hl, h1, h2, _⟩ := plc_some hk
  refine ⟨hl, ?_⟩
  apply List.ext_getElem?
  intro i
  unfold updB
  rw [List.getElem?_map, List.getElem?_set]
  by_cases e : k = i
  · subst e
    rw [if_pos rfl, if_pos hl, List.getElem?_eq_getElem hl]
    simp [h1]
  · rw [if_neg e]
    by_cases hi : i < L.length
    · rw [List.getElem?_eq_getElem hi]
      simp only [Option.map_some]
      rw [if_neg]
      intro e2
      have := (List.pairwise_iff_getElem.1 hn)
      rcases Nat.lt_or_gt_of_ne e with h' | h'
      · exact this k i (by simpa using hl) (by simpa using hi) h' (by simp [h1, e2])
      · exact this i k (by simpa using hi) (by simpa using hl) h' (by simp [h1, e2])
    · rw [List.getElem?_eq_none (by omega)]; rfl
theorem upd_none {L : List Ln} {h : Int} (hk : getB L h = none) (f : Ln → Ln) : updB L h f = L := by
  unfold updB
  refine (List.map_congr_left fun x hx => ?_).trans (List.map_id _)
  rw [if_neg (get_none hk x hx)]; rfl
/-- The one of a handle gone. -/
def delB (L : List Ln) (h : Int) : List Ln := L.filter fun x => decide (x.h ≠ h)
theorem get_del (h y : Int) : ∀ L : List Ln, getB (delB L h) y = if y = h then none else getB L y
  | [] => by simp [delB, getB]
  | x :: r => by
    have ih := get_del h y r
    unfold delB at ih ⊢
    rw [List.filter_cons]
    by_cases e2 : x.h = h
    · rw [if_neg (by simp [e2]), ih]
      split
      · rfl
      · rename_i hne
        show _ = if x.h = y then some x else getB r y
        rw [if_neg (fun k => hne (k.symm.trans e2))]
    · rw [if_pos (by simp [e2])]
      show (if x.h = y then some x else getB _ y) = if y = h then none else if x.h = y then some x else getB r y
      rw [ih]
      by_cases e3 : x.h = y
      · rw [if_pos e3, if_pos e3, if_neg (fun k => e2 (e3.trans k))]
      · rw [if_neg e3, if_neg e3]
theorem del_len {h : Int} : ∀ {L : List Ln}, Nd L → ∀ {x : Ln}, getB L h = some x → (delB L h).length = L.length - 1
  | [], _, _, e => by simp [getB] at e
  | y :: r, hn, x, e => by
    unfold Nd at hn
    rw [List.map_cons, List.nodup_cons] at hn
    unfold delB
    rw [List.filter_cons]
    unfold getB at e
    by_cases e2 : y.h = h
    · rw [if_neg (by simp [e2])]
      have : r.filter (fun x => decide (x.h ≠ h)) = r := by
        rw [List.filter_eq_self]
        intro z hz
        have : z.h ≠ h := fun k => hn.1 (by rw [e2, ← k]; exact List.mem_map_of_mem hz)
        simp [this]
      rw [this]
      simp
    · rw [if_pos (by simp [e2])]
      rw [if_neg e2] at e
      have ih := del_len hn.2 e
      unfold delB at ih
      have hp : 0 < r.length := List.length_pos_of_mem (get_some e).2
      rw [List.length_cons, ih, List.length_cons]
      omega
theorem Nd.upd {L : List Ln} (h : Nd L) {f : Ln → Ln} (hf : ∀ x, (f x).h = x.h) (y : Int) : Nd (updB L y f) := by
  unfold Nd; rw [upd_handles hf]; exact h
theorem Nd.del {L : List Ln} (h : Nd L) (y : Int) : Nd (delB L y) := by
  unfold Nd delB
  exact ((List.filter_sublist).map _).nodup h
theorem Nd.app {L : List Ln} (h : Nd L) {x : Ln} (hx : getB L x.h = none) : Nd (L ++ [x]) := by
  unfold Nd
  rw [List.map_append, List.nodup_append]
  refine ⟨h, by simp, fun a ha b hb => ?_⟩
  simp at hb
  obtain ⟨z, hz, rfl⟩ := List.mem_map.1 ha
  rw [hb]
  exact get_none hx z hz
/-- What the program's map holds. -/
def FL (L : List Ln) (x : Int) : Option Value := (getB L x).map pV
theorem FL_app {L : List Ln} {x : Ln} (hx : getB L x.h = none) (y : Int) : FL (L ++ [x]) y = if y = x.h then some (pV x) else FL L y := by
  unfold FL
  rw [get_app]
  by_cases e : y = x.h
  · subst e; rw [hx, if_pos rfl, if_pos rfl]; rfl
  · rw [if_neg e, if_neg (fun k => e k.symm)]
    cases getB L y <;> rfl
theorem FL_upd {L : List Ln} {f : Ln → Ln} (hf : ∀ x, (f x).h = x.h) {h : Int} {x : Ln} (hx : getB L h = some x) (y : Int) : FL (updB L h f) y = if y = h then some (pV (f x)) else FL L y := by
  unfold FL
  rw [get_upd hf]
  by_cases e : y = h
  · rw [if_pos e, if_pos e, hx]; rfl
  · rw [if_neg e, if_neg e]
theorem FL_del (L : List Ln) (h y : Int) : FL (delB L h) y = if y = h then none else FL L y := by
  unfold FL
  rw [get_del]
  split <;> rfl

/-! The calls. -/
def okN (n : Int) : Prop := 0 ≤ n ∧ n ≤ 1073741824
instance (n : Int) : Decidable (okN n) := by unfold okN; infer_instance
def okA (a : Ac) : Prop := okN a.g ∧ okN a.o ∧ okN a.l ∧ okN a.d ∧ okN a.c ∧ okN a.t
instance (a : Ac) : Decidable (okA a) := by unfold okA; infer_instance
/-- Two accounts together. -/
def sumA (a b : Ac) : Ac := ⟨wrap64 (a.g + b.g), wrap64 (a.o + b.o), wrap64 (a.l + b.l), wrap64 (a.d + b.d), wrap64 (a.c + b.c), wrap64 (a.t + b.t)⟩
def addE (a b : Ac) : Int := if ¬ (okA a ∧ okA b) then 1 else if ¬ okA (sumA a b) then 10 else 0
def addA (a b : Ac) : Ac := if addE a b = 0 then sumA a b else z6
def openE (L : List Ln) (h p : Int) : Int := if h = 0 ∨ getB L p = none then 20 else if (getB L h).isSome then 251 else 0
def openB (L : List Ln) (h p : Int) : List Ln := if openE L h p = 0 then L ++ [⟨h, p, z6, z6⟩] else L
/-- Does the j-th of a path follow? -/
def stepP (L : List Ln) (f : Nat → Int) (j : Nat) : Prop := ∃ x, getB L (f j) = some x ∧ x.p = if j = 0 then 0 else f (j - 1)
def okP (L : List Ln) (n : Nat) (f : Nat → Int) : Prop := 0 < n ∧ ∀ j, j < n → stepP L f j
def gUp (x : Ln) : Ln := { x with a := { x.a with g := wrap64 (x.a.g + 1) } }
def lastUp (lent : Bool) (x : Ln) : Ln := { x with a := { x.a with o := wrap64 (x.a.o + 1), l := if lent then wrap64 (x.a.l + 1) else x.a.l } }
def incs (L : List Ln) (f : Nat → Int) : Nat → List Ln
  | 0 => L
  | n + 1 => updB (incs L f n) (f n) gUp
theorem incs_handles (L : List Ln) (f : Nat → Int) : ∀ n, (incs L f n).map (·.h) = L.map (·.h)
  | 0 => rfl
  | n + 1 => (upd_handles (f := gUp) (fun _ => rfl) _ _).trans (incs_handles L f n)
/-- What the root was given. -/
def rootG : List Ln → Int
  | [] => 0
  | x :: _ => x.a.g
open Classical in
noncomputable def chargeE (L : List Ln) (n : Nat) (f : Nat → Int) : Int := if ¬ okP L n f then 20 else if 1073741824 ≤ rootG L then 10 else 0
noncomputable def chargeB (L : List Ln) (n : Nat) (f : Nat → Int) (lent : Bool) : List Ln := if chargeE L n f = 0 then updB (incs L f n) (f (n - 1)) (lastUp lent) else L
def noteE (L : List Ln) (h kind : Int) : Int := match getB L h with
  | none => 20
  | some x => if kind ≠ 8 ∧ kind ≠ 9 then 1 else if (kind = 8 ∧ 1073741824 ≤ x.a.d) ∨ (kind = 9 ∧ 1073741824 ≤ x.a.c) then 10 else 0
def noteUp (kind : Int) (late : Bool) (x : Ln) : Ln :=
  { x with a := { x.a with d := if kind = 8 then wrap64 (x.a.d + 1) else x.a.d, c := if kind = 8 then x.a.c else wrap64 (x.a.c + 1), t := if late then wrap64 (x.a.t + 1) else x.a.t } }
def noteB (L : List Ln) (h kind : Int) (late : Bool) : List Ln := if noteE L h kind = 0 then updB L h (noteUp kind late) else L
/-- Is one open below? -/
def belowB (L : List Ln) (h : Int) : Bool := L.any fun x => decide (x.p = h)
def closeE (L : List Ln) (h : Int) : Int := match getB L h with
  | none => 20
  | some x => if x.p = 0 then 91 else if belowB L h then 1 else 0
def closeUp (x y : Ln) : Ln :=
  { y with c := ⟨wrap64 (y.c.g + x.a.g), wrap64 (wrap64 (y.c.o + x.a.o) + x.c.o), wrap64 (wrap64 (y.c.l + x.a.l) + x.c.l), wrap64 (wrap64 (y.c.d + x.a.d) + x.c.d), wrap64 (wrap64 (y.c.c + x.a.c) + x.c.c), wrap64 (wrap64 (y.c.t + x.a.t) + x.c.t)⟩ }
def closeB (L : List Ln) (h : Int) : List Ln := if closeE L h = 0 then (match getB L h with
  | none => L
  | some x => delB (updB L x.p (closeUp x)) h) else L
def loadE (L : List Ln) (h : Int) (a c : Ac) : Int := if getB L h = none then 20 else if ¬ (okA a ∧ okA c) then 1 else 0
def loadB (L : List Ln) (h : Int) (a c : Ac) : List Ln := if loadE L h a c = 0 then updB L h (fun x => { x with a := a, c := c }) else L
/-- What those below were given. -/
def sumP : List Ln → Int → Int
  | [], _ => 0
  | x :: r, h => (if x.p = h then x.a.g else 0) + sumP r h
def evenX (L : List Ln) (x : Ln) : Bool := decide (wrap64 (x.a.o + x.c.g + sumP L x.h) = x.a.g ∧ ¬ x.a.l > x.a.o ∧ x.c.o = x.c.g)
def evenB (L : List Ln) : Bool := L.all (evenX L)
def ofA (L : List Ln) (h : Int) : Ac := match getB L h with
  | none => z6
  | some x => x.a
def ofC (L : List Ln) (h : Int) : Ac := match getB L h with
  | none => z6
  | some x => x.c
def ofE (L : List Ln) (h : Int) : Int := match getB L h with
  | none => 20
  | some _ => 0
theorem wrap_wrap (a b : Int) : wrap64 (wrap64 a + b) = wrap64 (a + b) := by unfold wrap64; omega
theorem wrap_right (a b : Int) : wrap64 (a + wrap64 b) = wrap64 (a + b) := by unfold wrap64; omega

/-- What a book that came of calls keeps. -/
structure Inv (L : List Ln) : Prop where
  nd : Nd L
  root : ∃ r rest, L = r :: rest ∧ r.p = 0 ∧ ∀ x ∈ rest, x.p ≠ 0
  nz : ∀ x ∈ L, x.h ≠ 0
  wf : ∀ x ∈ L, I64 x.h ∧ I64 x.p
  up : ∀ x ∈ L, x.p ≠ 0 → ∃ y, getB L x.p = some y
  rg : rootG L ≤ 1073741824
  dc : ∀ x ∈ L, x.a.d ≤ 1073741824 ∧ x.a.c ≤ 1073741824
end Bk
end Go.Proofs.Ytdbfjcdglcagaaa
