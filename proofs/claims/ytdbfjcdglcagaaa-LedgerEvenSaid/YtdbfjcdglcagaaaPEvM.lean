/- What is opened, charged, noted and closed is even; nothing of the program; no condition but that the numbers are small. -/
import Derived.Test.YtdbfjcdglcagaaaPInv
namespace Go.Proofs.Ytdbfjcdglcagaaa
open Go.RowKit Bk

theorem sumP_upd {f : Ln → Ln} (hp : ∀ x, (f x).p = x.p) {k q : Int} : ∀ {L : List Ln}, Nd L → ∀ {y : Ln}, getB L k = some y → sumP (updB L k f) q = sumP L q + if y.p = q then (f y).a.g - y.a.g else 0
  | [], _, y, hy => by simp [getB] at hy
  | x :: r, hn, y, hy => by
    have hn' := hn
    unfold Nd at hn'
    rw [List.map_cons, List.nodup_cons] at hn'
    unfold getB at hy
    show (if (if x.h = k then f x else x).p = q then (if x.h = k then f x else x).a.g else 0) + sumP (updB r k f) q = (if x.p = q then x.a.g else 0) + sumP r q + _
    by_cases e : x.h = k
    · rw [if_pos e] at hy
      cases hy
      have hno : getB r k = none := by
        cases hg : getB r k with
        | none => rfl
        | some z =>
          obtain ⟨h1, h2⟩ := get_some hg
          exact absurd (show x.h ∈ r.map (·.h) from by rw [e, ← h1]; exact List.mem_map_of_mem h2) hn'.1
      rw [upd_none hno, if_pos e, hp]
      split <;> omega
    · rw [if_neg e] at hy
      have ih := sumP_upd hp (q := q) (L := r) hn'.2 hy
      rw [if_neg e, ih]
      omega
theorem sumP_same {f : Ln → Ln} (hp : ∀ x, (f x).p = x.p) (hg : ∀ x, (f x).a.g = x.a.g) (k q : Int) : ∀ L : List Ln, sumP (updB L k f) q = sumP L q
  | [] => rfl
  | x :: r => by
    show (if (if x.h = k then f x else x).p = q then (if x.h = k then f x else x).a.g else 0) + sumP (updB r k f) q = (if x.p = q then x.a.g else 0) + sumP r q
    rw [sumP_same hp hg k q r]
    by_cases e : x.h = k
    · rw [if_pos e, hp, hg]
    · rw [if_neg e]
theorem sumP_app (x : Ln) (q : Int) : ∀ L : List Ln, sumP (L ++ [x]) q = sumP L q + if x.p = q then x.a.g else 0
  | [] => by simp [sumP]
  | y :: r => by
    show (if y.p = q then y.a.g else 0) + sumP (r ++ [x]) q = (if y.p = q then y.a.g else 0) + sumP r q + _
    rw [sumP_app x q r]; omega
theorem sumP_del {k q : Int} : ∀ {L : List Ln}, Nd L → ∀ {y : Ln}, getB L k = some y → sumP (delB L k) q = sumP L q - if y.p = q then y.a.g else 0
  | [], _, y, hy => by simp [getB] at hy
  | x :: r, hn, y, hy => by
    have hn' := hn
    unfold Nd at hn'
    rw [List.map_cons, List.nodup_cons] at hn'
    unfold getB at hy
    unfold delB
    rw [List.filter_cons]
    by_cases e : x.h = k
    · rw [if_pos e] at hy
      cases hy
      have hr : r.filter (fun x => decide (x.h ≠ k)) = r := by
        rw [List.filter_eq_self]
        intro z hz
        have : z.h ≠ k := fun c => hn'.1 (by rw [e, ← c]; exact List.mem_map_of_mem hz)
        simp [this]
      rw [if_neg (by simp [e]), hr]
      show _ = (if x.p = q then x.a.g else 0) + sumP r q - _
      omega
    · rw [if_neg e] at hy
      have ih := sumP_del (q := q) (L := r) hn'.2 hy
      unfold delB at ih
      rw [if_pos (by simp [e])]
      show (if x.p = q then x.a.g else 0) + sumP _ q = (if x.p = q then x.a.g else 0) + sumP r q - _
      rw [ih]; omega
theorem sumP_none {q : Int} : ∀ {L : List Ln}, (∀ x ∈ L, x.p ≠ q) → sumP L q = 0
  | [], _ => rfl
  | x :: r, h => by
    show (if x.p = q then x.a.g else 0) + sumP r q = 0
    rw [if_neg (h x (by simp)), sumP_none (fun y hy => h y (by simp [hy]))]; rfl
theorem sumP_nn {q : Int} : ∀ {L : List Ln}, (∀ x ∈ L, 0 ≤ x.a.g) → 0 ≤ sumP L q
  | [], _ => Int.le_refl _
  | x :: r, h => by
    show 0 ≤ (if x.p = q then x.a.g else 0) + sumP r q
    have h1 := h x (by simp)
    have h2 := sumP_nn (q := q) (L := r) (fun y hy => h y (by simp [hy]))
    split <;> omega
/-- A book that is even: n were charged; no number of it above m. -/
structure Ev (L : List Ln) (n m : Int) : Prop where
  iv : Iv L
  rt : ∃ r, getB L 1 = some r ∧ r.p = 0 ∧ r.a.g = n
  ev : ∀ x ∈ L, x.a.o + x.c.g + sumP L x.h = x.a.g
  lo : ∀ x ∈ L, x.a.l ≤ x.a.o ∧ x.c.o = x.c.g
  nn : ∀ x ∈ L, 0 ≤ x.a.g ∧ x.a.g ≤ m ∧ 0 ≤ x.a.o ∧ 0 ≤ x.a.l ∧ 0 ≤ x.c.g
theorem Ev.even {L : List Ln} {n m : Int} (h : Ev L n m) (hm : m ≤ 1000000) : evenB L = true := by
  unfold evenB
  rw [List.all_eq_true]
  intro x hx
  unfold evenX
  have h1 := h.ev x hx
  have h2 := h.nn x hx
  have h3 := h.lo x hx
  rw [h1, wrap_small (by omega) (by omega)]
  simp only [decide_eq_true_eq]
  exact ⟨trivial, by omega, h3.2⟩
theorem Ev.mono {L : List Ln} {n m m' : Int} (h : Ev L n m) (hm : m ≤ m') : Ev L n m' :=
  ⟨h.iv, h.rt, h.ev, h.lo, fun x hx => by have := h.nn x hx; omega⟩
theorem ev_new : Ev [⟨1, 0, z6, z6⟩] 0 0 := by
  refine ⟨iv_new (show I64 1 from by unfold I64; omega) (by decide), ⟨_, rfl, rfl, rfl⟩, ?_, ?_, ?_⟩ <;> intro x hx <;> simp at hx <;> subst hx <;> simp [z6, sumP]
theorem ev_open {L : List Ln} {n m : Int} (h : Ev L n m) (hm : 0 ≤ m) {k p : Int} (hk : I64 k) (hp : I64 p) : Ev (openB L k p) n m := by
  have hI := iv_open h.iv hk hp
  unfold openB at hI ⊢
  split at hI
  · rename_i hE
    rw [if_pos hE]
    have hE' := hE
    unfold openE at hE
    split at hE
    · cases hE
    · rename_i hn
      split at hE
      · cases hE
      · rename_i hs
        have hk0 : k ≠ 0 := fun e => hn (.inl e)
        have hgk : getB L k = none := by simpa using hs
        have hno : ∀ x ∈ L, x.p ≠ k := by
          intro x hx e
          obtain ⟨y, hy⟩ := h.iv.inv.up x hx (by rw [e]; exact hk0)
          rw [e, hgk] at hy; cases hy
        have hpk : p ≠ k := fun e => hn (.inr (by rw [e]; exact hgk))
        obtain ⟨r, hr1, hr2, hr3⟩ := h.rt
        have hS : ∀ q, sumP (L ++ [⟨k, p, z6, z6⟩]) q = sumP L q := fun q => by rw [sumP_app]; show sumP L q + (if p = q then (0 : Int) else 0) = _; split <;> omega
        refine ⟨hI, ⟨r, by rw [get_app, hr1]; rfl, hr2, hr3⟩, ?_, ?_, ?_⟩
        · intro x hx
          rw [hS]
          rcases List.mem_append.1 hx with hx | hx
          · exact h.ev x hx
          · simp at hx; subst hx
            show (0 : Int) + 0 + sumP L k = 0
            rw [sumP_none hno]; rfl
        · intro x hx
          rcases List.mem_append.1 hx with hx | hx
          · exact h.lo x hx
          · simp at hx; subst hx; simp [z6]
        · intro x hx
          rcases List.mem_append.1 hx with hx | hx
          · exact h.nn x hx
          · simp at hx; subst hx; simp [z6]; exact hm
  · rename_i hE
    rw [if_neg hE]; exact h
theorem ev_note {L : List Ln} {n m : Int} (h : Ev L n m) (k kind : Int) (late : Bool) : Ev (noteB L k kind late) n m := by
  have hI := iv_note h.iv k kind late
  unfold noteB at hI ⊢
  split at hI
  · rename_i hE
    rw [if_pos hE]
    obtain ⟨r, hr1, hr2, hr3⟩ := h.rt
    refine ⟨hI, ?_, ?_, ?_, ?_⟩
    · rw [get_upd (f := noteUp kind late) (fun _ => rfl), hr1]
      by_cases e : (1 : Int) = k
      · rw [if_pos e, ← e, hr1]; exact ⟨_, rfl, hr2, hr3⟩
      · rw [if_neg e]; exact ⟨_, rfl, hr2, hr3⟩
    · intro x hx
      rw [sumP_same (f := noteUp kind late) (fun _ => rfl) (fun _ => rfl)]
      obtain ⟨y, hy, rfl⟩ := mem_upd hx
      have := h.ev y hy
      split
      · exact this
      · exact this
    · intro x hx
      obtain ⟨y, hy, rfl⟩ := mem_upd hx
      have := h.lo y hy
      split
      · exact this
      · exact this
    · intro x hx
      obtain ⟨y, hy, rfl⟩ := mem_upd hx
      have := h.nn y hy
      split
      · exact this
      · exact this
  · rename_i hE
    rw [if_neg hE]; exact h
theorem ev_close {L : List Ln} {n m : Int} (h : Ev L n m) (hm : m ≤ 1000000) (k : Int) : Ev (closeB L k) n m := by
  have hI := iv_close h.iv k
  unfold closeB at hI ⊢
  by_cases hE : closeE L k = 0
  · rw [if_pos hE] at hI ⊢
    cases hx : getB L k with
    | none => exact h
    | some x =>
      rw [hx] at hI
      have hI : Iv (delB (updB L x.p (closeUp x)) k) := hI
      show Ev (delB (updB L x.p (closeUp x)) k) n m
      unfold closeE at hE
      rw [hx] at hE
      have hE : (if x.p = 0 then (91 : Int) else if belowB L k then 1 else 0) = 0 := hE
      split at hE
      · cases hE
      · rename_i hp
        split at hE
        · cases hE
        · rename_i hb
          have hb : belowB L k = false := by simpa using hb
          have hno : ∀ y ∈ L, y.p ≠ k := fun y hy => by simpa using List.any_eq_false.1 hb y hy
          obtain ⟨hxh, hxm⟩ := get_some hx
          have hpk : x.p ≠ k := hno x hxm
          have x1 := h.ev x hxm
          have x2 := h.lo x hxm
          have x3 := h.nn x hxm
          rw [hxh, sumP_none hno] at x1
          have hnn : ∀ y ∈ L, 0 ≤ y.a.g := fun y hy => (h.nn y hy).1
          have hgx : getB (updB L x.p (closeUp x)) k = some x := by
            rw [get_upd (f := closeUp x) (fun _ => rfl), if_neg (fun e => hpk e.symm), hx]
          have hnd : Nd (updB L x.p (closeUp x)) := h.iv.inv.nd.upd (f := closeUp x) (fun _ => rfl) _
          have hS : ∀ q, sumP (delB (updB L x.p (closeUp x)) k) q = sumP L q - if x.p = q then x.a.g else 0 := fun q => by
            rw [sumP_del hnd hgx, sumP_same (f := closeUp x) (fun _ => rfl) (fun _ => rfl)]
          have hmem : ∀ y ∈ delB (updB L x.p (closeUp x)) k, ∃ z ∈ L, y = if z.h = x.p then closeUp x z else z := fun y hy => mem_upd (List.mem_filter.1 hy).1
          have hcg : ∀ z ∈ L, z.c.g ≤ m := fun z hz => by
            have a1 := h.ev z hz
            have a2 := h.nn z hz
            have a3 := sumP_nn (q := z.h) hnn
            omega
          have hw : ∀ z ∈ L, z.h = x.p → wrap64 (z.c.g + x.a.g) = z.c.g + x.a.g ∧ wrap64 (wrap64 (z.c.o + x.a.o) + x.c.o) = z.c.g + x.a.g := fun z hz _ => by
            have a2 := h.nn z hz
            have a4 := hcg z hz
            have a5 := hcg x hxm
            have a6 := h.lo z hz
            refine ⟨wrap_small (by omega) (by omega), ?_⟩
            rw [wrap_wrap, wrap_small (by omega) (by omega)]
            omega
          obtain ⟨r, hr1, hr2, hr3⟩ := h.rt
          refine ⟨hI, ?_, ?_, ?_, ?_⟩
          · rw [get_del]
            rw [if_neg (fun e => by rw [e, hx] at hr1; cases hr1; exact hp hr2), get_upd (f := closeUp x) (fun _ => rfl)]
            by_cases e : (1 : Int) = x.p
            · rw [if_pos e, ← e, hr1]; exact ⟨_, rfl, hr2, hr3⟩
            · rw [if_neg e, hr1]; exact ⟨_, rfl, hr2, hr3⟩
          · intro y hy
            obtain ⟨z, hz, rfl⟩ := hmem y hy
            rw [hS]
            have a1 := h.ev z hz
            by_cases e : z.h = x.p
            · rw [if_pos e]
              show z.a.o + wrap64 (z.c.g + x.a.g) + (sumP L z.h - if x.p = z.h then x.a.g else 0) = z.a.g
              rw [(hw z hz e).1, if_pos e.symm]
              omega
            · rw [if_neg e, if_neg (fun c => e c.symm)]
              omega
          · intro y hy
            obtain ⟨z, hz, rfl⟩ := hmem y hy
            have a1 := h.lo z hz
            by_cases e : z.h = x.p
            · rw [if_pos e]
              show z.a.l ≤ z.a.o ∧ wrap64 (wrap64 (z.c.o + x.a.o) + x.c.o) = wrap64 (z.c.g + x.a.g)
              rw [(hw z hz e).1, (hw z hz e).2]
              exact ⟨a1.1, rfl⟩
            · rw [if_neg e]; exact a1
          · intro y hy
            obtain ⟨z, hz, rfl⟩ := hmem y hy
            have a1 := h.nn z hz
            by_cases e : z.h = x.p
            · rw [if_pos e]
              show 0 ≤ z.a.g ∧ z.a.g ≤ m ∧ 0 ≤ z.a.o ∧ 0 ≤ z.a.l ∧ 0 ≤ wrap64 (z.c.g + x.a.g)
              rw [(hw z hz e).1]
              omega
            · rw [if_neg e]; exact a1
  · rw [if_neg hE]; exact h
/-- Of a path that leads no two that follow are the same. -/
theorem path_ne {L : List Ln} (hI : Inv L) {n : Nat} {f : Nat → Int} (hok : okP L n f) : ∀ j, j + 1 < n → f (j + 1) ≠ f j
  | 0, hj => fun e => by
    obtain ⟨x, hx, hp⟩ := hok.2 0 hok.1
    obtain ⟨y, hy, hq⟩ := hok.2 1 hj
    rw [if_pos rfl] at hp
    rw [if_neg (by omega)] at hq
    rw [e, hx] at hy
    cases hy
    rw [hp] at hq
    obtain ⟨h1, h2⟩ := get_some hx
    exact hI.nz x h2 (by rw [h1]; exact hq.symm)
  | j + 1, hj => fun e => by
    obtain ⟨x, hx, hp⟩ := hok.2 (j + 1) (by omega)
    obtain ⟨y, hy, hq⟩ := hok.2 (j + 2) hj
    rw [if_neg (by omega)] at hp hq
    rw [e, hx] at hy
    cases hy
    exact path_ne hI hok j (by omega) (show f (j + 1) = f j from by rw [hp] at hq; exact hq.symm)
/-- A charge on its way: all is even but the one that was charged last. -/
structure Mid (L : List Ln) (m : Int) (j : Nat) (f : Nat → Int) : Prop where
  ev : ∀ x ∈ L, x.a.o + x.c.g + sumP L x.h + (if 0 < j ∧ x.h = f (j - 1) then 1 else 0) = x.a.g
  lo : ∀ x ∈ L, x.a.l ≤ x.a.o ∧ x.c.o = x.c.g
  nn : ∀ x ∈ L, 0 ≤ x.a.g ∧ x.a.g ≤ m + j ∧ 0 ≤ x.a.o ∧ 0 ≤ x.a.l ∧ 0 ≤ x.c.g
theorem get_incs_p {L : List Ln} {f : Nat → Int} {k : Int} {x : Ln} (hx : getB L k = some x) : ∀ n, ∃ y, getB (incs L f n) k = some y ∧ y.p = x.p
  | 0 => ⟨x, hx, rfl⟩
  | n + 1 => by
    obtain ⟨y, hy, hp⟩ := get_incs_p (f := f) hx n
    unfold incs
    rw [get_upd (f := gUp) (fun _ => rfl)]
    by_cases e : k = f n
    · rw [if_pos e, ← e, hy]; exact ⟨_, rfl, hp⟩
    · rw [if_neg e]; exact ⟨y, hy, hp⟩
theorem mid_incs {L : List Ln} {n m : Int} (h : Ev L n m) (hm : m ≤ 1000000) {N : Nat} (hN : N ≤ 1000) {f : Nat → Int} (hok : okP L N f) (hI : ∀ j, j ≤ N → Iv (incs L f j)) : ∀ j, j ≤ N → Mid (incs L f j) m j f
  | 0, _ => ⟨fun x hx => by rw [if_neg (by omega)]; have := h.ev x hx; show x.a.o + x.c.g + sumP L x.h + 0 = x.a.g; omega, h.lo, fun x hx => by have := h.nn x hx; omega⟩
  | j + 1, hj => by
    have ih := mid_incs h hm hN hok hI j (by omega)
    obtain ⟨x, hx, hp⟩ := hok.2 j (by omega)
    obtain ⟨y, hy, hyp⟩ := get_incs_p (f := f) hx j
    have hIj := hI j (by omega)
    obtain ⟨hyh, hym⟩ := get_some hy
    have hne : f j ≠ y.p := by
      rw [hyp, hp]
      cases j with
      | zero => rw [if_pos rfl, ← hyh]; exact hIj.inv.nz y hym
      | succ j => rw [if_neg (by omega)]; exact path_ne h.iv.inv hok j (by omega)
    have hgy : wrap64 (y.a.g + 1) = y.a.g + 1 := by have := ih.nn y hym; exact wrap_small (by omega) (by omega)
    have hS : ∀ q, sumP (updB (incs L f j) (f j) gUp) q = sumP (incs L f j) q + if y.p = q then 1 else 0 := fun q => by
      rw [sumP_upd (f := gUp) (fun _ => rfl) hIj.inv.nd hy]
      show _ + (if y.p = q then wrap64 (y.a.g + 1) - y.a.g else 0) = _
      rw [hgy]
      split <;> omega
    have hw : ∀ z ∈ incs L f j, wrap64 (z.a.g + 1) = z.a.g + 1 := fun z hz => by have := ih.nn z hz; exact wrap_small (by omega) (by omega)
    refine ⟨?_, ?_, ?_⟩
    · intro z hz
      obtain ⟨v, hv, rfl⟩ := mem_upd hz
      show _ + sumP (updB (incs L f j) (f j) gUp) _ + _ = _
      rw [hS, Nat.add_sub_cancel]
      have a1 := ih.ev v hv
      by_cases e : v.h = f j
      · rw [if_pos e]
        show v.a.o + v.c.g + (sumP (incs L f j) v.h + if y.p = v.h then 1 else 0) + (if 0 < j + 1 ∧ v.h = f j then 1 else 0) = wrap64 (v.a.g + 1)
        rw [hw v hv, if_neg (show ¬ y.p = v.h from by rw [e]; exact fun c => hne c.symm), if_pos (show 0 < j + 1 ∧ v.h = f j from ⟨by omega, e⟩)]
        have a2 : ¬ (0 < j ∧ v.h = f (j - 1)) := fun c => by
          cases j with
          | zero => exact absurd c.1 (by omega)
          | succ j =>
            have := path_ne h.iv.inv hok j (by omega)
            exact this (by rw [← e]; exact c.2)
        rw [if_neg a2] at a1
        omega
      · rw [if_neg e, if_neg (show ¬ (0 < j + 1 ∧ v.h = f j) from fun c => e c.2)]
        have a2 : (0 < j ∧ v.h = f (j - 1)) ↔ y.p = v.h := by
          rw [hyp, hp]
          cases j with
          | zero =>
            rw [if_pos rfl]
            exact ⟨fun c => absurd c.1 (by omega), fun c => absurd c.symm (hIj.inv.nz v hv)⟩
          | succ j =>
            rw [if_neg (by omega)]
            exact ⟨fun c => c.2.symm, fun c => ⟨by omega, c.symm⟩⟩
        by_cases c : y.p = v.h
        · rw [if_pos c]; rw [if_pos (a2.2 c)] at a1; omega
        · rw [if_neg c]; rw [if_neg (fun k => c (a2.1 k))] at a1; omega
    · intro z hz
      obtain ⟨v, hv, rfl⟩ := mem_upd hz
      have a1 := ih.lo v hv
      split
      · exact a1
      · exact a1
    · intro z hz
      obtain ⟨v, hv, rfl⟩ := mem_upd hz
      have a1 := ih.nn v hv
      by_cases e : v.h = f j
      · rw [if_pos e]
        show 0 ≤ wrap64 (v.a.g + 1) ∧ wrap64 (v.a.g + 1) ≤ m + ((j + 1 : Nat) : Int) ∧ 0 ≤ v.a.o ∧ 0 ≤ v.a.l ∧ 0 ≤ v.c.g
        rw [hw v hv]
        omega
      · rw [if_neg e]; omega
theorem root_get {L : List Ln} (hI : Inv L) {k : Int} {r : Ln} (h : getB L k = some r) (hp : r.p = 0) : rootG L = r.a.g := by
  obtain ⟨r', rest, e, h1, h2⟩ := hI.root
  obtain ⟨_, hm⟩ := get_some h
  rw [e] at hm ⊢
  rcases List.mem_cons.1 hm with rfl | hm
  · rfl
  · exact absurd hp (h2 r hm)
theorem ev_charge {L : List Ln} {n m : Int} (h : Ev L n m) (hm : m ≤ 1000000) {N : Nat} (hN : N ≤ 1000) (f : Nat → Int) (lent : Bool) : Ev (chargeB L N f lent) (if chargeE L N f = 0 then n + 1 else n) (m + N) := by
  have hI := iv_charge h.iv N f lent
  unfold chargeB at hI ⊢
  by_cases hE : chargeE L N f = 0
  · rw [if_pos hE] at hI ⊢
    rw [if_pos hE]
    unfold chargeE at hE
    split at hE
    · cases hE
    · rename_i hok
      split at hE
      · cases hE
      · rename_i hlt
        have hok : okP L N f := Classical.not_not.1 hok
        have hII := iv_incs h.iv hok (by omega)
        obtain ⟨h1, h2⟩ := hII N (Nat.le_refl _)
        have hM := mid_incs h hm hN hok (fun j hj => (hII j hj).1) N (Nat.le_refl _)
        have hN0 := hok.1
        rw [if_neg (by omega)] at h2
        obtain ⟨r, hr1, hr2, hr3⟩ := h.rt
        have hrG := root_get h.iv.inv hr1 hr2
        obtain ⟨r', hr1', hr2'⟩ := get_incs_p (f := f) hr1 N
        have hrG' := root_get h1.inv hr1' (hr2'.trans hr2)
        have hcnd : ∀ z ∈ incs L f N, z.a.o ≤ m + N ∧ z.a.l ≤ m + N := fun z hz => by
          have a1 := hM.ev z hz
          have a2 := hM.nn z hz
          have a3 := sumP_nn (q := z.h) (L := incs L f N) (fun y hy => (hM.nn y hy).1)
          have a4 := hM.lo z hz
          split at a1 <;> omega
        have hwo : ∀ z ∈ incs L f N, wrap64 (z.a.o + 1) = z.a.o + 1 ∧ wrap64 (z.a.l + 1) = z.a.l + 1 := fun z hz => by
          have a1 := hcnd z hz
          have a2 := hM.nn z hz
          exact ⟨wrap_small (by omega) (by omega), wrap_small (by omega) (by omega)⟩
        refine ⟨hI, ?_, ?_, ?_, ?_⟩
        · rw [get_upd (f := lastUp lent) (fun _ => rfl)]
          by_cases e : (1 : Int) = f (N - 1)
          · rw [if_pos e, ← e, hr1']
            exact ⟨_, rfl, hr2'.trans hr2, by show r'.a.g = _; omega⟩
          · rw [if_neg e]
            exact ⟨r', hr1', hr2'.trans hr2, by omega⟩
        · intro x hx
          rw [sumP_same (f := lastUp lent) (fun _ => rfl) (fun _ => rfl)]
          obtain ⟨z, hz, rfl⟩ := mem_upd hx
          have a1 := hM.ev z hz
          by_cases e : z.h = f (N - 1)
          · rw [if_pos e]
            show wrap64 (z.a.o + 1) + z.c.g + sumP (incs L f N) z.h = z.a.g
            rw [(hwo z hz).1]
            rw [if_pos ⟨hN0, e⟩] at a1
            omega
          · rw [if_neg e]
            rw [if_neg (fun c => e c.2)] at a1
            omega
        · intro x hx
          obtain ⟨z, hz, rfl⟩ := mem_upd hx
          have a1 := hM.lo z hz
          by_cases e : z.h = f (N - 1)
          · rw [if_pos e]
            show (if lent then wrap64 (z.a.l + 1) else z.a.l) ≤ wrap64 (z.a.o + 1) ∧ z.c.o = z.c.g
            rw [(hwo z hz).1, (hwo z hz).2]
            exact ⟨by split <;> omega, a1.2⟩
          · rw [if_neg e]; exact a1
        · intro x hx
          obtain ⟨z, hz, rfl⟩ := mem_upd hx
          have a1 := hM.nn z hz
          by_cases e : z.h = f (N - 1)
          · rw [if_pos e]
            show 0 ≤ z.a.g ∧ z.a.g ≤ m + N ∧ 0 ≤ wrap64 (z.a.o + 1) ∧ 0 ≤ (if lent then wrap64 (z.a.l + 1) else z.a.l) ∧ 0 ≤ z.c.g
            rw [(hwo z hz).1, (hwo z hz).2]
            refine ⟨a1.1, a1.2.1, by omega, ?_, a1.2.2.2.2⟩
            split <;> omega
          · rw [if_neg e]; exact a1
  · rw [if_neg hE, if_neg hE]
    exact h.mono (by omega)
end Go.Proofs.Ytdbfjcdglcagaaa
