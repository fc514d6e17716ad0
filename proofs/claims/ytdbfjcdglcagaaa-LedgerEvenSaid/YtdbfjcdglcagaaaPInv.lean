/- What every call keeps of a book; nothing of the program; no condition. -/
import Derived.Test.YtdbfjcdglcagaaaPMath
namespace Go.Proofs.Ytdbfjcdglcagaaa
open Go.RowKit Bk

/-- What a book that came of calls keeps, the lower bounds with it. -/
structure Iv (L : List Ln) : Prop where
  inv : Inv L
  lo : 0 ≤ rootG L
  dl : ∀ x ∈ L, 0 ≤ x.a.d ∧ 0 ≤ x.a.c
theorem iv_new {r : Int} (h : I64 r) (h0 : r ≠ 0) : Iv [⟨r, 0, z6, z6⟩] := by
  refine ⟨⟨by simp [Nd], ⟨_, _, rfl, rfl, by simp⟩, ?_, ?_, ?_, ?_, ?_⟩, ?_, ?_⟩
  · intro x hx; simp at hx; subst hx; exact h0
  · intro x hx; simp at hx; subst hx; exact ⟨h, by show -9223372036854775808 ≤ (0 : Int) ∧ (0 : Int) ≤ 9223372036854775807; omega⟩
  · intro x hx hp; simp at hx; subst hx; exact absurd rfl hp
  · simp [rootG, z6]
  · intro x hx; simp at hx; subst hx; simp [z6]
  · simp [rootG, z6]
  · intro x hx; simp at hx; subst hx; simp [z6]
theorem Inv.ne {L : List Ln} (h : Inv L) : L ≠ [] := by obtain ⟨r, rest, e, _⟩ := h.root; rw [e]; simp
theorem iv_open {L : List Ln} (hI : Iv L) {h p : Int} (hh : I64 h) (hp : I64 p) : Iv (openB L h p) := by
  unfold openB
  split
  · rename_i hE
    have hE' := hE
    unfold openE at hE
    split at hE
    · cases hE
    · rename_i hn
      split at hE
      · cases hE
      · rename_i hs
        have hh0 : h ≠ 0 := fun e => hn (.inl e)
        have hgh : getB L h = none := by simpa using hs
        obtain ⟨y, hy⟩ : ∃ y, getB L p = some y := by
          cases e : getB L p with
          | none => exact absurd (.inr e) hn
          | some y => exact ⟨y, rfl⟩
        have hp0 : p ≠ 0 := by obtain ⟨h1, h2⟩ := get_some hy; rw [← h1]; exact hI.inv.nz y h2
        obtain ⟨r, rest, e, hr1, hr2⟩ := hI.inv.root
        have hG : rootG (L ++ [⟨h, p, z6, z6⟩]) = rootG L := by rw [e]; rfl
        refine ⟨⟨hI.inv.nd.app hgh, ⟨r, rest ++ [⟨h, p, z6, z6⟩], by rw [e]; rfl, hr1, ?_⟩, ?_, ?_, ?_, by rw [hG]; exact hI.inv.rg, ?_⟩, by rw [hG]; exact hI.lo, ?_⟩
        · intro x hx
          rcases List.mem_append.1 hx with hx | hx
          · exact hr2 x hx
          · simp at hx; subst hx; exact hp0
        · intro x hx
          rcases List.mem_append.1 hx with hx | hx
          · exact hI.inv.nz x hx
          · simp at hx; subst hx; exact hh0
        · intro x hx
          rcases List.mem_append.1 hx with hx | hx
          · exact hI.inv.wf x hx
          · simp at hx; subst hx; exact ⟨hh, hp⟩
        · intro x hx hxp
          rcases List.mem_append.1 hx with hx | hx
          · obtain ⟨z, hz⟩ := hI.inv.up x hx hxp
            exact ⟨z, by rw [get_app, hz]; rfl⟩
          · simp at hx; subst hx
            exact ⟨y, by rw [get_app, hy]; rfl⟩
        · intro x hx
          rcases List.mem_append.1 hx with hx | hx
          · exact hI.inv.dc x hx
          · simp at hx; subst hx; simp [z6]
        · intro x hx
          rcases List.mem_append.1 hx with hx | hx
          · exact hI.dl x hx
          · simp at hx; subst hx; simp [z6]
  · exact hI
theorem mem_upd {L : List Ln} {k : Int} {f : Ln → Ln} {x : Ln} (hx : x ∈ updB L k f) : ∃ y ∈ L, x = if y.h = k then f y else y := by
  unfold updB at hx
  obtain ⟨y, hy, e⟩ := List.mem_map.1 hx
  exact ⟨y, hy, e.symm⟩
theorem inv_upd {L : List Ln} (hI : Inv L) {k : Int} {f : Ln → Ln} (hfh : ∀ x, (f x).h = x.h) (hfp : ∀ x, (f x).p = x.p) (hrg : rootG (updB L k f) ≤ 1073741824) (hdc : ∀ x ∈ L, x.h = k → (f x).a.d ≤ 1073741824 ∧ (f x).a.c ≤ 1073741824) : Inv (updB L k f) := by
  have hH : ∀ y, (if y.h = k then f y else y).h = y.h := fun y => by split; exact hfh y; rfl
  have hP : ∀ y, (if y.h = k then f y else y).p = y.p := fun y => by split; exact hfp y; rfl
  obtain ⟨r, rest, e, hr1, hr2⟩ := hI.root
  refine ⟨hI.nd.upd hfh k, ⟨if r.h = k then f r else r, updB rest k f, by rw [e]; rfl, by rw [hP]; exact hr1, ?_⟩, ?_, ?_, ?_, hrg, ?_⟩
  · intro x hx
    obtain ⟨y, hy, rfl⟩ := mem_upd hx
    rw [hP]; exact hr2 y hy
  · intro x hx
    obtain ⟨y, hy, rfl⟩ := mem_upd hx
    rw [hH]; exact hI.nz y hy
  · intro x hx
    obtain ⟨y, hy, rfl⟩ := mem_upd hx
    rw [hH, hP]; exact hI.wf y hy
  · intro x hx hxp
    obtain ⟨y, hy, rfl⟩ := mem_upd hx
    rw [hP] at hxp ⊢
    obtain ⟨z, hz⟩ := hI.up y hy hxp
    rw [get_upd hfh]
    by_cases e2 : y.p = k
    · rw [if_pos e2, ← e2, hz]; exact ⟨_, rfl⟩
    · rw [if_neg e2]; exact ⟨z, hz⟩
  · intro x hx
    obtain ⟨y, hy, rfl⟩ := mem_upd hx
    split
    · rename_i h; exact hdc y hy h
    · exact hI.dc y hy
theorem iv_upd {L : List Ln} (hI : Iv L) {k : Int} {f : Ln → Ln} (hfh : ∀ x, (f x).h = x.h) (hfp : ∀ x, (f x).p = x.p) (hrg : 0 ≤ rootG (updB L k f) ∧ rootG (updB L k f) ≤ 1073741824) (hdc : ∀ x ∈ L, x.h = k → (0 ≤ (f x).a.d ∧ 0 ≤ (f x).a.c) ∧ (f x).a.d ≤ 1073741824 ∧ (f x).a.c ≤ 1073741824) : Iv (updB L k f) := by
  refine ⟨inv_upd hI.inv hfh hfp hrg.2 (fun x hx h => (hdc x hx h).2), hrg.1, ?_⟩
  intro x hx
  obtain ⟨y, hy, rfl⟩ := mem_upd hx
  split
  · rename_i h; exact (hdc y hy h).1
  · exact hI.dl y hy
theorem rootG_upd {L : List Ln} (k : Int) {f : Ln → Ln} (hg : ∀ x, (f x).a.g = x.a.g) : rootG (updB L k f) = rootG L := by
  cases L with
  | nil => rfl
  | cons x r =>
    show (if x.h = k then f x else x).a.g = x.a.g
    split
    · exact hg x
    · rfl
theorem wrap_small {a : Int} (h0 : 0 ≤ a) (h1 : a ≤ 1073741824) : wrap64 a = a := by unfold wrap64; omega
theorem iv_note {L : List Ln} (hI : Iv L) (k kind : Int) (late : Bool) : Iv (noteB L k kind late) := by
  unfold noteB
  split
  · rename_i hE
    have hG := rootG_upd (L := L) k (f := noteUp kind late) (fun _ => rfl)
    refine iv_upd hI (fun _ => rfl) (fun _ => rfl) (by rw [hG]; exact ⟨hI.lo, hI.inv.rg⟩) ?_
    intro x hx hk
    have hg := get_mem hI.inv.nd hx
    rw [hk] at hg
    unfold noteE at hE
    rw [hg] at hE
    have hE : (if kind ≠ 8 ∧ kind ≠ 9 then (1 : Int) else if (kind = 8 ∧ 1073741824 ≤ x.a.d) ∨ (kind = 9 ∧ 1073741824 ≤ x.a.c) then 10 else 0) = 0 := hE
    have h1 := hI.dl x hx
    have h2 := hI.inv.dc x hx
    split at hE
    · cases hE
    · rename_i h8
      split at hE
      · cases hE
      · rename_i h9
        show (0 ≤ (if kind = 8 then wrap64 (x.a.d + 1) else x.a.d) ∧ 0 ≤ (if kind = 8 then x.a.c else wrap64 (x.a.c + 1))) ∧ (if kind = 8 then wrap64 (x.a.d + 1) else x.a.d) ≤ 1073741824 ∧ (if kind = 8 then x.a.c else wrap64 (x.a.c + 1)) ≤ 1073741824
        by_cases e : kind = 8
        · rw [if_pos e, if_pos e, wrap_small (by omega) (by omega)]
          omega
        · rw [if_neg e, if_neg e, wrap_small (by omega) (by omega)]
          omega
  · exact hI
theorem iv_load {L : List Ln} (hI : Iv L) (k : Int) (a c : Ac) : Iv (loadB L k a c) := by
  unfold loadB
  split
  · rename_i hE
    unfold loadE at hE
    split at hE
    · cases hE
    · split at hE
      · cases hE
      · rename_i hok
        have hok : okA a ∧ okA c := by
          by_cases h : okA a ∧ okA c
          · exact h
          · exact absurd h hok
        obtain ⟨⟨h1, h2, h3, h4, h5, h6⟩, _⟩ := hok
        unfold okN at h1 h4 h5
        refine iv_upd hI (fun _ => rfl) (fun _ => rfl) ?_ (fun x _ _ => ⟨⟨h4.1, h5.1⟩, h4.2, h5.2⟩)
        obtain ⟨r, rest, e, _, _⟩ := hI.inv.root
        have hl := hI.lo
        have hr := hI.inv.rg
        rw [e] at hl hr ⊢
        show 0 ≤ (if r.h = k then ({ r with a := a, c := c } : Ln) else r).a.g ∧ (if r.h = k then ({ r with a := a, c := c } : Ln) else r).a.g ≤ 1073741824
        split
        · exact h1
        · exact ⟨hl, hr⟩
  · exact hI
/-- The path beside the root. -/
theorem path_root {L : List Ln} (hI : Inv L) {n : Nat} {f : Nat → Int} (hok : okP L n f) {r : Ln} {rest : List Ln} (e : L = r :: rest) : f 0 = r.h ∧ ∀ j, 0 < j → j < n → f j ≠ r.h := by
  obtain ⟨r', rest', e', hr1, hr2⟩ := hI.root
  rw [e] at e'
  cases e'
  constructor
  · obtain ⟨x, hx, hp⟩ := hok.2 0 hok.1
    rw [if_pos rfl] at hp
    obtain ⟨h1, h2⟩ := get_some hx
    rw [e] at h2
    rcases List.mem_cons.1 h2 with rfl | h2
    · exact h1.symm
    · exact absurd hp (hr2 x h2)
  · intro j hj hjn hc
    obtain ⟨x, hx, hp⟩ := hok.2 j hjn
    rw [if_neg (by omega)] at hp
    obtain ⟨y, hy, _⟩ := hok.2 (j - 1) (by omega)
    obtain ⟨h1, h2⟩ := get_some hy
    have hz : x.p ≠ 0 := by rw [hp, ← h1]; exact hI.nz y h2
    have hg := get_mem hI.nd (x := r) (by rw [e]; simp)
    rw [hc, hg] at hx
    cases hx
    exact hz hr1
theorem incs_root {r : Ln} {rest : List Ln} (f : Nat → Int) : ∀ n, ∃ r' rest', incs (r :: rest) f n = r' :: rest' ∧ r'.h = r.h ∧ r'.p = r.p
  | 0 => ⟨r, rest, rfl, rfl, rfl⟩
  | n + 1 => by
    obtain ⟨r', rest', e, h1, h2⟩ := incs_root (r := r) (rest := rest) f n
    refine ⟨if r'.h = f n then gUp r' else r', updB rest' (f n) gUp, ?_, ?_, ?_⟩
    · show updB (incs (r :: rest) f n) (f n) gUp = _
      rw [e]; rfl
    · rw [← h1]; split <;> rfl
    · rw [← h2]; split <;> rfl
theorem iv_incs {L : List Ln} (hI : Iv L) {n : Nat} {f : Nat → Int} (hok : okP L n f) (hlt : rootG L < 1073741824) : ∀ j, j ≤ n → Iv (incs L f j) ∧ rootG (incs L f j) = if j = 0 then rootG L else rootG L + 1
  | 0, _ => ⟨hI, rfl⟩
  | j + 1, hj => by
    obtain ⟨h1, h2⟩ := iv_incs hI hok hlt j (by omega)
    obtain ⟨r, rest, e, _, _⟩ := hI.inv.root
    obtain ⟨p0, p1⟩ := path_root hI.inv hok e
    have hl := hI.lo
    have hG : rootG (incs L f (j + 1)) = rootG L + 1 := by
      obtain ⟨r', rest', e', hh, _⟩ := incs_root (r := r) (rest := rest) f j
      rw [← e] at e'
      rw [e'] at h2
      show rootG (updB (incs L f j) (f j) gUp) = _
      rw [e']
      show (if r'.h = f j then gUp r' else r').a.g = _
      have h2 : r'.a.g = if j = 0 then rootG L else rootG L + 1 := h2
      by_cases hj0 : j = 0
      · subst hj0
        rw [if_pos (by rw [hh, p0])]
        show wrap64 (r'.a.g + 1) = _
        rw [h2, if_pos rfl, wrap_small (by omega) (by omega)]
      · rw [if_neg (by rw [hh]; exact fun k => p1 j (by omega) (by omega) k.symm), h2, if_neg hj0]
    refine ⟨?_, by rw [hG, if_neg (by omega)]⟩
    refine iv_upd h1 (f := gUp) (fun _ => rfl) (fun _ => rfl) ?_ (fun x hx _ => ⟨h1.dl x hx, h1.inv.dc x hx⟩)
    have hG : rootG (updB (incs L f j) (f j) gUp) = rootG L + 1 := hG
    rw [hG]
    omega
theorem iv_charge {L : List Ln} (hI : Iv L) (n : Nat) (f : Nat → Int) (lent : Bool) : Iv (chargeB L n f lent) := by
  unfold chargeB
  split
  · rename_i hE
    unfold chargeE at hE
    split at hE
    · cases hE
    · rename_i hok
      split at hE
      · cases hE
      · rename_i hlt
        have hok : okP L n f := Classical.not_not.1 hok
        obtain ⟨h1, h2⟩ := iv_incs hI hok (by omega) n (Nat.le_refl _)
        refine iv_upd h1 (f := lastUp lent) (fun _ => rfl) (fun _ => rfl) ?_ (fun x hx _ => ⟨h1.dl x hx, h1.inv.dc x hx⟩)
        rw [rootG_upd _ (f := lastUp lent) (fun _ => rfl)]
        exact ⟨h1.lo, h1.inv.rg⟩
  · exact hI
theorem iv_close {L : List Ln} (hI : Iv L) (h : Int) : Iv (closeB L h) := by
  unfold closeB
  split
  · rename_i hE
    cases hx : getB L h with
    | none => exact hI
    | some x =>
      show Iv (delB (updB L x.p (closeUp x)) h)
      unfold closeE at hE
      rw [hx] at hE
      have hE : (if x.p = 0 then (91 : Int) else if belowB L h then 1 else 0) = 0 := hE
      split at hE
      · cases hE
      · rename_i hp
        split at hE
        · cases hE
        · rename_i hb
          have hb : belowB L h = false := by simpa using hb
          have hM : Iv (updB L x.p (closeUp x)) := by
            refine iv_upd hI (f := closeUp x) (fun _ => rfl) (fun _ => rfl) ?_ (fun y hy _ => ⟨hI.dl y hy, hI.inv.dc y hy⟩)
            rw [rootG_upd _ (f := closeUp x) (fun _ => rfl)]
            exact ⟨hI.lo, hI.inv.rg⟩
          have hbM : ∀ y ∈ updB L x.p (closeUp x), y.p ≠ h := by
            intro y hy
            obtain ⟨z, hz, rfl⟩ := mem_upd hy
            have := List.any_eq_false.1 hb z hz
            have e : (if z.h = x.p then closeUp x z else z).p = z.p := by split <;> rfl
            rw [e]
            simpa using this
          obtain ⟨r, rest, e, hr1, hr2⟩ := hM.inv.root
          have hrh : r.h ≠ h := by
            intro k
            have hg := get_mem hM.inv.nd (x := r) (by rw [e]; simp)
            rw [k, get_upd (f := closeUp x) (fun _ => rfl)] at hg
            split at hg
            · rename_i hhp
              rw [← hhp, hx] at hg
              cases hg
              exact hp hr1
            · rw [hx] at hg
              cases hg
              exact hp hr1
          have eD : delB (updB L x.p (closeUp x)) h = r :: delB rest h := by
            rw [e]
            unfold delB
            rw [List.filter_cons, if_pos (by simp [hrh])]
          have hsub : ∀ y, y ∈ delB (updB L x.p (closeUp x)) h → y ∈ updB L x.p (closeUp x) := fun y hy => (List.mem_filter.1 hy).1
          have hG : rootG (delB (updB L x.p (closeUp x)) h) = rootG (updB L x.p (closeUp x)) := by rw [eD, e]; rfl
          refine ⟨⟨hM.inv.nd.del h, ⟨r, delB rest h, eD, hr1, fun y hy => hr2 y (List.mem_filter.1 hy).1⟩, fun y hy => hM.inv.nz y (hsub y hy), fun y hy => hM.inv.wf y (hsub y hy), ?_, by rw [hG]; exact hM.inv.rg, fun y hy => hM.inv.dc y (hsub y hy)⟩, by rw [hG]; exact hM.lo, fun y hy => hM.dl y (hsub y hy)⟩
          intro y hy hyp
          obtain ⟨z, hz⟩ := hM.inv.up y (hsub y hy) hyp
          rw [get_del, if_neg (hbM y (hsub y hy))]
          exact ⟨z, hz⟩
  · exact hI
/-! How many. -/
theorem open_len (L : List Ln) (h p : Int) : (openB L h p).length ≤ L.length + 1 := by unfold openB; split <;> simp
theorem incs_len' (L : List Ln) (f : Nat → Int) : ∀ n, (incs L f n).length = L.length
  | 0 => rfl
  | n + 1 => by unfold incs; rw [upd_len]; exact incs_len' L f n
theorem charge_len (L : List Ln) (n : Nat) (f : Nat → Int) (lent : Bool) : (chargeB L n f lent).length ≤ L.length + 1 := by
  unfold chargeB; split
  · rw [upd_len, incs_len']; omega
  · omega
theorem note_len (L : List Ln) (k kind : Int) (late : Bool) : (noteB L k kind late).length ≤ L.length + 1 := by unfold noteB; split; (· rw [upd_len]; omega); omega
theorem load_len (L : List Ln) (k : Int) (a c : Ac) : (loadB L k a c).length ≤ L.length + 1 := by unfold loadB; split; (· rw [upd_len]; omega); omega
theorem close_len (L : List Ln) (h : Int) : (closeB L h).length ≤ L.length + 1 := by
  unfold closeB
  split
  · split
    · omega
    · unfold delB
      refine Nat.le_trans (List.length_filter_le _ _) ?_
      rw [upd_len]; omega
  · omega
end Go.Proofs.Ytdbfjcdglcagaaa
