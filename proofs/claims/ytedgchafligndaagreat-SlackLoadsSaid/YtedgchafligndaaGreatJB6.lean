/- Texts of stages 3, 4, 12, 13 and 14 that stand together: ZMath ZPT ZFind ZProg ZDropP ZNewP ZSAllR ZSClone ZAllP; no condition but those that each row names. -/
import Derived.Test.YtedgchafligndaaGreatJB1
import Derived.Test.YtedgchafligndaaGreatJB2
import Derived.Test.YtedgchafligndaaGreatJB3
import Derived.Test.YtedgchafligndaaGreatJB4
import Derived.Test.YtedgchafligndaaGreatJB5
import Derived.RegionTactic
import Derived.ChangeAlike
import Derived.Deep.DeepCutAuto
import Derived.BigRegion
import Derived.Deep.LoopGhost
/- A leaf as plain numbers: slots, and a task a slot; which is the first ready one, what each call makes of it; nothing of the program; no condition. -/
namespace Go.Proofs.YtedgchafligndaaGreat
open Go.RowKit Tsk

namespace Tsk
def okTk (t : Tk) : Prop := okT t.p t.n t.f t.k
/-- No task. -/
abbrev tk0 : Tk := ⟨0, .slice none 0 0, 0, fun _ => ⟨0, 0, 0, 0⟩, kZ⟩
theorem okA_0 : okA kZ := by unfold okA kZ; decide
theorem tk0_ok : okTk tk0 := ⟨⟨by decide, by decide⟩, Nat.zero_le _, fun _ hi => absurd hi (Nat.not_lt_zero _), okA_0⟩
/-- A new task. -/
abbrev tkN (p : Int) : Tk := ⟨p, .slice none 0 0, 0, fun _ => ⟨0, 0, 0, 0⟩, kZ⟩
theorem tkN_ok {p : Int} (h : 0 ≤ p ∧ p ≤ 31) : okTk (tkN p) := ⟨h, Nat.zero_le _, fun _ hi => absurd hi (Nat.not_lt_zero _), okA_0⟩
def tkPush (t : Tk) (s : Value) (j : Jb) (now : Int) : Tk := ⟨t.p, s, t.n + 1, upd t.f t.n ⟨j.l, j.c, now, j.d⟩, t.k⟩
def tkRun (t : Tk) (s : Value) (now : Int) : Tk := ⟨t.p, s, runN t.n (t.f 0), runF t.f, runK t.k (t.f 0) now⟩
theorem push_inv {t : Tk} {j : Jb} {now : Int} (h : pushE t.p t.n t.f t.k j now = 0) : okTk t ∧ (0 ≤ now ∧ now ≤ 1073741824) ∧ okJ ⟨j.l, j.c, now, j.d⟩ ∧ t.n < 8 := by
  unfold pushE at h
  by_cases h1 : okT t.p t.n t.f t.k
  · rw [if_neg (fun x => x h1)] at h
    by_cases h2 : 0 ≤ now ∧ now ≤ 1073741824
    · rw [if_neg (fun x => x h2)] at h
      by_cases h3 : okJ ⟨j.l, j.c, now, j.d⟩
      · rw [if_neg (fun x => x h3)] at h
        by_cases h4 : 8 ≤ t.n
        · rw [if_pos h4] at h; omega
        · exact ⟨h1, h2, h3, by omega⟩
      · rw [if_pos h3] at h; omega
    · rw [if_pos h2] at h; omega
  · rw [if_pos h1] at h; omega
theorem push_ok {t : Tk} {j : Jb} {now : Int} (s : Value) (h : pushE t.p t.n t.f t.k j now = 0) : okTk (tkPush t s j now) := by
  obtain ⟨⟨h1, h2, h3, h4⟩, _, h5, h6⟩ := push_inv h
  refine ⟨h1, by show t.n + 1 ≤ 8; omega, fun i hi => ?_, h4⟩
  have hi' : i < t.n + 1 := hi
  show okJ (upd t.f t.n ⟨j.l, j.c, now, j.d⟩ i)
  by_cases e : i = t.n
  · subst e; rw [upd_same]; exact h5
  · rw [upd_ne _ e]; exact h3 i (by omega)
theorem run_inv {t : Tk} {now : Int} (h : runE t.p t.n t.f t.k now = 0) : okTk t ∧ (0 ≤ now ∧ now < 1073741824) ∧ 0 < t.n ∧ t.k.g < 1073741824 := by
  unfold runE at h
  by_cases h1 : okT t.p t.n t.f t.k
  · rw [if_neg (fun x => x h1)] at h
    by_cases h2 : 0 ≤ now ∧ now < 1073741824
    · rw [if_neg (fun x => x h2)] at h
      by_cases h3 : t.n = 0
      · rw [if_pos h3] at h; omega
      · rw [if_neg h3] at h
        by_cases h4 : t.k.g = 1073741824
        · rw [if_pos h4] at h; omega
        · have := h1.2.2.2.1.1.2
          exact ⟨h1, h2, by omega, by omega⟩
    · rw [if_pos h2] at h; omega
  · rw [if_pos h1] at h; omega
theorem run_ok {t : Tk} {now : Int} (s : Value) (h : runE t.p t.n t.f t.k now = 0) : okTk (tkRun t s now) := by
  obtain ⟨⟨h1, h2, h3, h4⟩, h5, h6, h7⟩ := run_inv h
  have hf := h3 0 h6
  refine ⟨h1, ?_, fun i hi => ?_, ?_⟩
  · show runN t.n (t.f 0) ≤ 8
    unfold runN; split <;> omega
  · have hi' : i < runN t.n (t.f 0) := hi
    show okJ (runF t.f i)
    unfold runF
    unfold runN at hi'
    by_cases e : (t.f 0).l = 1 ∨ (t.f 0).c = 1
    · rw [if_pos e] at hi' ⊢; exact h3 _ (by omega)
    · rw [if_neg e] at hi' ⊢
      by_cases e0 : i = 0
      · subst e0
        rw [upd_same]
        obtain ⟨a1, a2, a3, a4⟩ := hf
        unfold runJ okJ
        dsimp only
        refine ⟨by omega, ?_, a3, a4⟩
        split <;> omega
      · rw [upd_ne _ e0]; exact h3 _ hi'
  · show okA (runK t.k (t.f 0) now)
    obtain ⟨⟨b1, b2, b3⟩, b4, b5, b6⟩ := h4
    unfold runK okA
    dsimp only
    refine ⟨⟨by omega, by omega, b3⟩, ?_, ?_, ?_⟩ <;> (repeat' split) <;> omega
/-- The mark of what a tick did. -/
def markS (x : Int) : Int := if x = 1 then 8 else if x = 2 then 9 else 0
end Tsk

/-- The slot of the first ready one of the slots ahead of a place; -1: none. -/
def fsS (t : Nat → Bool) (T : Nat → Tk) : Nat → Int
  | 0 => -1
  | i + 1 => if t i = true ∧ 0 < (T i).n ∧ (fsS t T i < 0 ∨ (T i).p < (T (fsS t T i).toNat).p) then (i : Nat) else fsS t T i
theorem fs_le (t : Nat → Bool) (T : Nat → Tk) : ∀ m, -1 ≤ fsS t T m ∧ fsS t T m < m
  | 0 => by simp [fsS]
  | i + 1 => by
    have := fs_le t T i
    simp only [fsS]
    split <;> omega
theorem fs_inv (t : Nat → Bool) (T : Nat → Tk) : ∀ m, 0 ≤ fsS t T m → t (fsS t T m).toNat = true ∧ 0 < (T (fsS t T m).toNat).n
  | 0, h => by simp [fsS] at h
  | i + 1, h => by
    simp only [fsS] at h ⊢
    by_cases c : t i = true ∧ 0 < (T i).n ∧ (fsS t T i < 0 ∨ (T i).p < (T (fsS t T i).toNat).p)
    · rw [if_pos c]; exact ⟨c.1, c.2.1⟩
    · rw [if_neg c] at h ⊢; exact fs_inv t T i h
/-- It is the first of the most urgent ones that are ready. -/
theorem fs_best (t : Nat → Bool) (T : Nat → Tk) : ∀ m i, i < m → t i = true → 0 < (T i).n → 0 ≤ fsS t T m ∧ (T (fsS t T m).toNat).p ≤ (T i).p
  | m + 1, i, hi, ht, hn => by
    simp only [fsS]
    by_cases c : t m = true ∧ 0 < (T m).n ∧ (fsS t T m < 0 ∨ (T m).p < (T (fsS t T m).toNat).p)
    · rw [if_pos c]
      refine ⟨by omega, ?_⟩
      rw [Int.toNat_natCast]
      by_cases e : i = m
      · subst e; omega
      · obtain ⟨h1, h2⟩ := fs_best t T m i (by omega) ht hn
        rcases c.2.2 with c | c <;> omega
    · rw [if_neg c]
      by_cases e : i = m
      · subst e
        have : ¬ (fsS t T i < 0 ∨ (T i).p < (T (fsS t T i).toNat).p) := fun x => c ⟨ht, hn, x⟩
        omega
      · exact fs_best t T m i (by omega) ht hn
theorem pickS_congr {T T' : Nat → Tk} : ∀ {m : Nat}, (∀ i, i < m → (T i).n = (T' i).n ∧ (T i).p = (T' i).p) → pickS T m = pickS T' m
  | 0, _ => rfl
  | m + 1, h => by
    have e := pickS_congr (m := m) (fun i hi => h i (by omega))
    obtain ⟨h1, h2⟩ := h m (by omega)
    have hb := pickS_le T' m
    simp only [pickS]
    rw [e, h1, h2]
    by_cases c : pickS T' m < 0
    · simp [c]
    · rw [(h (pickS T' m).toNat (by omega)).2]
/-- The slots ahead of m that are taken. -/
def idxTo (t : Nat → Bool) (m : Nat) : List Nat := (List.range m).filter t
theorem idxTo_yes {t : Nat → Bool} {m : Nat} (h : t m = true) : idxTo t (m + 1) = idxTo t m ++ [m] := by
  unfold idxTo; rw [List.range_succ, List.filter_append, List.filter_cons, if_pos h]; rfl
theorem idxTo_no {t : Nat → Bool} {m : Nat} (h : t m = false) : idxTo t (m + 1) = idxTo t m := by
  unfold idxTo; rw [List.range_succ, List.filter_append, List.filter_cons, if_neg (by rw [h]; simp)]; simp
theorem idxTo_mem {t : Nat → Bool} {m i : Nat} (h : i ∈ idxTo t m) : i < m ∧ t i = true := by
  unfold idxTo at h
  have := List.mem_filter.1 h
  exact ⟨List.mem_range.1 this.1, this.2⟩
theorem idxTo_len (t : Nat → Bool) (m : Nat) : (idxTo t m).length ≤ m := by
  unfold idxTo
  have := List.length_filter_le t (List.range m)
  simpa using this
theorem idxTo_at {t : Nat → Bool} {m j : Nat} (h : j < (idxTo t m).length) : (idxTo t m).getD j 0 < m ∧ t ((idxTo t m).getD j 0) = true := by
  refine idxTo_mem ?_
  rw [List.getD_eq_getElem?_getD, List.getElem?_eq_getElem h]
  exact List.getElem_mem h
/-- Which of the tasks that are told is picked: the first ready one's place. -/
theorem pick_first (t : Nat → Bool) (T : Nat → Tk) : ∀ m, (fsS t T m < 0 → pickS (fun j => T ((idxTo t m).getD j 0)) (idxTo t m).length = -1) ∧
    (0 ≤ fsS t T m → 0 ≤ pickS (fun j => T ((idxTo t m).getD j 0)) (idxTo t m).length ∧ ((idxTo t m).getD (pickS (fun j => T ((idxTo t m).getD j 0)) (idxTo t m).length).toNat 0 : Nat) = (fsS t T m).toNat)
  | 0 => ⟨fun _ => rfl, fun h => by simp [fsS] at h⟩
  | m + 1 => by
    obtain ⟨h1, h2⟩ := pick_first t T m
    cases ht : t m with
    | false =>
      have e : fsS t T (m + 1) = fsS t T m := by simp only [fsS]; rw [if_neg (by rw [ht]; simp)]
      rw [idxTo_no ht, e]
      exact ⟨h1, h2⟩
    | true =>
      rw [idxTo_yes ht]
      have hl : (idxTo t m ++ [m]).length = (idxTo t m).length + 1 := by simp
      rw [hl]
      have hL : ∀ j, j < (idxTo t m).length → (idxTo t m ++ [m]).getD j 0 = (idxTo t m).getD j 0 := fun j hj => by
        rw [List.getD_eq_getElem?_getD, List.getElem?_append_left hj, List.getD_eq_getElem?_getD]
      have hE : (idxTo t m ++ [m]).getD (idxTo t m).length 0 = m := by simp [List.getD_eq_getElem?_getD]
      have hP : pickS (fun j => T ((idxTo t m ++ [m]).getD j 0)) (idxTo t m).length = pickS (fun j => T ((idxTo t m).getD j 0)) (idxTo t m).length :=
        pickS_congr fun i hi => by rw [hL i hi]; exact ⟨rfl, rfl⟩
      have hb := pickS_le (fun j => T ((idxTo t m).getD j 0)) (idxTo t m).length
      have hf := fs_le t T m
      have eP : pickS (fun j => T ((idxTo t m ++ [m]).getD j 0)) ((idxTo t m).length + 1) = if 0 < (T m).n ∧ (pickS (fun j => T ((idxTo t m).getD j 0)) (idxTo t m).length < 0 ∨ (T m).p < (T ((idxTo t m ++ [m]).getD (pickS (fun j => T ((idxTo t m).getD j 0)) (idxTo t m).length).toNat 0)).p) then (((idxTo t m).length : Nat) : Int) else pickS (fun j => T ((idxTo t m).getD j 0)) (idxTo t m).length := by
        conv => lhs; unfold pickS
        simp only [hP, hE]
      have eF : fsS t T (m + 1) = if t m = true ∧ 0 < (T m).n ∧ (fsS t T m < 0 ∨ (T m).p < (T (fsS t T m).toNat).p) then (m : Int) else fsS t T m := rfl
      generalize pickS (fun j => T ((idxTo t m).getD j 0)) (idxTo t m).length = q at *
      generalize fsS t T m = s at *
      by_cases hs : s < 0
      · have hq := h1 hs
        by_cases hn : 0 < (T m).n
        · have c1 : 0 < (T m).n ∧ (q < 0 ∨ (T m).p < (T ((idxTo t m ++ [m]).getD q.toNat 0)).p) := ⟨hn, .inl (by omega)⟩
          have c2 : t m = true ∧ 0 < (T m).n ∧ (s < 0 ∨ (T m).p < (T s.toNat).p) := ⟨ht, hn, .inl hs⟩
          rw [if_pos c1] at eP
          rw [if_pos c2] at eF
          rw [eP, eF]
          exact ⟨fun h => by omega, fun _ => ⟨by omega, by rw [Int.toNat_natCast, hE, Int.toNat_natCast]⟩⟩
        · have c1 : ¬ (0 < (T m).n ∧ (q < 0 ∨ (T m).p < (T ((idxTo t m ++ [m]).getD q.toNat 0)).p)) := fun x => hn x.1
          have c2 : ¬ (t m = true ∧ 0 < (T m).n ∧ (s < 0 ∨ (T m).p < (T s.toNat).p)) := fun x => hn x.2.1
          rw [if_neg c1] at eP
          rw [if_neg c2] at eF
          rw [eP, eF]
          exact ⟨fun _ => hq, fun h => by omega⟩
      · obtain ⟨q0, q1⟩ := h2 (by omega)
        have hLq := hL q.toNat (by omega)
        rw [hLq, q1] at eP
        by_cases hn : 0 < (T m).n ∧ (T m).p < (T s.toNat).p
        · have c1 : 0 < (T m).n ∧ (q < 0 ∨ (T m).p < (T s.toNat).p) := ⟨hn.1, .inr hn.2⟩
          have c2 : t m = true ∧ 0 < (T m).n ∧ (s < 0 ∨ (T m).p < (T s.toNat).p) := ⟨ht, hn.1, .inr hn.2⟩
          rw [if_pos c1] at eP
          rw [if_pos c2] at eF
          rw [eP, eF]
          exact ⟨fun h => by omega, fun _ => ⟨by omega, by rw [Int.toNat_natCast, hE, Int.toNat_natCast]⟩⟩
        · have c1 : ¬ (0 < (T m).n ∧ (q < 0 ∨ (T m).p < (T s.toNat).p)) := fun x => hn ⟨x.1, by omega⟩
          have c2 : ¬ (t m = true ∧ 0 < (T m).n ∧ (s < 0 ∨ (T m).p < (T s.toNat).p)) := fun x => hn ⟨x.2.1, by omega⟩
          rw [if_neg c1] at eP
          rw [if_neg c2] at eF
          rw [eP, eF]
          exact ⟨fun h => by omega, fun _ => ⟨q0, by rw [hLq]; exact q1⟩⟩

/-- What always holds of a leaf. -/
structure LGood (A : Tab) (T : Nat → Tk) : Prop where
  tab : A.Good
  kind : A.kind = 2
  len : A.gens.length = 8
  ok : ∀ i, okTk (T i)
theorem upd_okTk {T : Nat → Tk} (h : ∀ i, okTk (T i)) (i : Nat) {x : Tk} (hx : okTk x) : ∀ j, okTk (upd T i x j) := fun j => by
  by_cases e : j = i
  · subst e; rw [upd_same]; exact hx
  · rw [upd_ne _ e]; exact h j
theorem LGood.new : LGood (Tab.new 2 8) (fun _ => tk0) := ⟨new_good (by omega) (by omega) (by omega) (by omega), rfl, by simp [Tab.new], fun _ => tk0_ok⟩
theorem LGood.add {A : Tab} {T : Nat → Tk} (h : LGood A T) {i : Nat} (hi : A.free = some i) {x : Tk} (hx : okTk x) : LGood (A.addAt i 0) (upd T i x) :=
  ⟨add_good h.tab hi 0, h.kind, h.len, upd_okTk h.ok i hx⟩
theorem LGood.drop {A : Tab} {T : Nat → Tk} (h : LGood A T) {i : Nat} {y : Int} (hi : A.find y = some i) : LGood (A.dropAt i) (upd T i tk0) :=
  ⟨drop_good h.tab hi, h.kind, by simp [Tab.dropAt]; exact h.len, upd_okTk h.ok i tk0_ok⟩
theorem LGood.set {A : Tab} {T : Nat → Tk} (h : LGood A T) (i : Nat) {x : Tk} (hx : okTk x) : LGood A (upd T i x) := ⟨h.tab, h.kind, h.len, upd_okTk h.ok i hx⟩
/-! What each call answers, and what it makes of a leaf. -/
namespace Tsk
def sN : Value := .slice none 0 0
def addN (A : Tab) (p : Int) : Int := if 0 ≤ p ∧ p ≤ 31 then (match A.free with | none => 30 | some _ => 0) else 2
def addH (A : Tab) (p : Int) : Int := if 0 ≤ p ∧ p ≤ 31 then (match A.free with | none => 0 | some i => A.hd i) else 0
def addA (A : Tab) (p : Int) : Tab := if 0 ≤ p ∧ p ≤ 31 then (match A.free with | none => A | some i => A.addAt i 0) else A
def addT (A : Tab) (T : Nat → Tk) (p : Int) : Nat → Tk := if 0 ≤ p ∧ p ≤ 31 then (match A.free with | none => T | some i => upd T i (tkN p)) else T
def dropN (A : Tab) (h : Int) : Int := match A.find h with | none => 20 | some _ => 0
def dropK (A : Tab) (T : Nat → Tk) (h : Int) : Ac := match A.find h with | none => kZ | some i => (T i).k
def dropA (A : Tab) (h : Int) : Tab := match A.find h with | none => A | some i => A.dropAt i
def dropT (A : Tab) (T : Nat → Tk) (h : Int) : Nat → Tk := match A.find h with | none => T | some i => upd T i tk0
def pushN (A : Tab) (T : Nat → Tk) (h : Int) (j : Jb) (now : Int) : Int := match A.find h with | none => 20 | some i => pushE (T i).p (T i).n (T i).f (T i).k j now
def pushT (A : Tab) (T : Nat → Tk) (h : Int) (j : Jb) (now : Int) : Nat → Tk := match A.find h with | none => T | some i => if pushE (T i).p (T i).n (T i).f (T i).k j now = 0 then upd T i (tkPush (T i) sN j now) else T
/-- The slot of the first ready one; -1: none. -/
def rdy (A : Tab) (T : Nat → Tk) : Int := fsS A.t T 8
def rdyH (A : Tab) (T : Nat → Tk) : Int := if rdy A T < 0 then 0 else A.hd (rdy A T).toNat
/-- Is a tick used? -/
def used (A : Tab) (T : Nat → Tk) (now : Int) : Bool := decide (0 ≤ rdy A T) && decide (runE (T (rdy A T).toNat).p (T (rdy A T).toNat).n (T (rdy A T).toNat).f (T (rdy A T).toNat).k now = 0)
def offH (A : Tab) (T : Nat → Tk) (now : Int) : Int := if used A T now = true then A.hd (rdy A T).toNat else 0
def offM (A : Tab) (T : Nat → Tk) (now : Int) : Int := if used A T now = true then markS (runW ((T (rdy A T).toNat).f 0)) else 0
def offL (A : Tab) (T : Nat → Tk) (now : Int) : Int := if used A T now = true then runL ((T (rdy A T).toNat).f 0) now else 0
def offT (A : Tab) (T : Nat → Tk) (now : Int) : Nat → Tk := if used A T now = true then upd T (rdy A T).toNat (tkRun (T (rdy A T).toNat) sN now) else T
end Tsk
theorem add_ways (A : Tab) (T : Nat → Tk) (p : Int) : (¬ (0 ≤ p ∧ p ≤ 31) ∧ addN A p = 2 ∧ addH A p = 0 ∧ addA A p = A ∧ addT A T p = T) ∨ ((0 ≤ p ∧ p ≤ 31) ∧ A.free = none ∧ addN A p = 30 ∧ addH A p = 0 ∧ addA A p = A ∧ addT A T p = T) ∨
    ∃ i, (0 ≤ p ∧ p ≤ 31) ∧ A.free = some i ∧ addN A p = 0 ∧ addH A p = A.hd i ∧ addA A p = A.addAt i 0 ∧ addT A T p = upd T i (tkN p) := by
  by_cases h : 0 ≤ p ∧ p ≤ 31
  · cases hf : A.free with
    | none => exact .inr (.inl ⟨h, rfl, by simp [addN, h, hf], by simp [addH, h, hf], by simp [addA, h, hf], by simp [addT, h, hf]⟩)
    | some i => exact .inr (.inr ⟨i, h, rfl, by simp [addN, h, hf], by simp [addH, h, hf], by simp [addA, h, hf], by simp [addT, h, hf]⟩)
  · exact .inl ⟨h, by unfold addN; rw [if_neg h], by unfold addH; rw [if_neg h], by unfold addA; rw [if_neg h], by unfold addT; rw [if_neg h]⟩
theorem drop_ways (A : Tab) (T : Nat → Tk) (h : Int) : (A.find h = none ∧ dropN A h = 20 ∧ dropK A T h = kZ ∧ dropA A h = A ∧ dropT A T h = T) ∨
    ∃ i, A.find h = some i ∧ dropN A h = 0 ∧ dropK A T h = (T i).k ∧ dropA A h = A.dropAt i ∧ dropT A T h = upd T i tk0 := by
  cases hf : A.find h with
  | none => exact .inl ⟨rfl, by simp [dropN, hf], by simp [dropK, hf], by simp [dropA, hf], by simp [dropT, hf]⟩
  | some i => exact .inr ⟨i, rfl, by simp [dropN, hf], by simp [dropK, hf], by simp [dropA, hf], by simp [dropT, hf]⟩
theorem push_ways (A : Tab) (T : Nat → Tk) (h : Int) (j : Jb) (now : Int) : (A.find h = none ∧ pushN A T h j now = 20 ∧ pushT A T h j now = T) ∨
    ∃ i, A.find h = some i ∧ pushN A T h j now = pushE (T i).p (T i).n (T i).f (T i).k j now ∧ ((pushE (T i).p (T i).n (T i).f (T i).k j now ≠ 0 ∧ pushT A T h j now = T) ∨ (pushE (T i).p (T i).n (T i).f (T i).k j now = 0 ∧ pushT A T h j now = upd T i (tkPush (T i) sN j now))) := by
  cases hf : A.find h with
  | none => exact .inl ⟨rfl, by simp [pushN, hf], by simp [pushT, hf]⟩
  | some i =>
    refine .inr ⟨i, rfl, by simp [pushN, hf], ?_⟩
    by_cases e : pushE (T i).p (T i).n (T i).f (T i).k j now = 0
    · exact .inr ⟨e, by simp [pushT, hf, e]⟩
    · exact .inl ⟨e, by simp [pushT, hf, e]⟩
theorem off_ways (A : Tab) (T : Nat → Tk) (now : Int) : (rdy A T < 0 ∧ offH A T now = 0 ∧ offM A T now = 0 ∧ offL A T now = 0 ∧ offT A T now = T) ∨
    ∃ i : Nat, rdy A T = i ∧ i < 8 ∧ A.t i = true ∧ 0 < (T i).n ∧ ((runE (T i).p (T i).n (T i).f (T i).k now ≠ 0 ∧ offH A T now = 0 ∧ offM A T now = 0 ∧ offL A T now = 0 ∧ offT A T now = T) ∨
      (runE (T i).p (T i).n (T i).f (T i).k now = 0 ∧ offH A T now = A.hd i ∧ offM A T now = markS (runW ((T i).f 0)) ∧ offL A T now = runL ((T i).f 0) now ∧ offT A T now = upd T i (tkRun (T i) sN now))) := by
  by_cases h : rdy A T < 0
  · have hu : used A T now = false := by unfold used; rw [decide_eq_false (by omega)]; rfl
    exact .inl ⟨h, by unfold offH; rw [hu]; rfl, by unfold offM; rw [hu]; rfl, by unfold offL; rw [hu]; rfl, by unfold offT; rw [hu]; rfl⟩
  · have hl := fs_le A.t T 8
    have hv := fs_inv A.t T 8 (by unfold rdy at h; omega)
    obtain ⟨i, hi⟩ : ∃ i : Nat, rdy A T = i := ⟨(rdy A T).toNat, by omega⟩
    have hi8 : i < 8 := by unfold rdy at hi; omega
    rw [show fsS A.t T 8 = (i : Int) from hi, Int.toNat_natCast] at hv
    refine .inr ⟨i, hi, hi8, hv.1, hv.2, ?_⟩
    have hu : used A T now = decide (runE (T i).p (T i).n (T i).f (T i).k now = 0) := by unfold used; rw [hi, decide_eq_true (by omega), Int.toNat_natCast]; rfl
    by_cases e : runE (T i).p (T i).n (T i).f (T i).k now = 0
    · rw [decide_eq_true e] at hu
      exact .inr ⟨e, by unfold offH; rw [hu, if_pos rfl, hi, Int.toNat_natCast], by unfold offM; rw [hu, if_pos rfl, hi, Int.toNat_natCast], by unfold offL; rw [hu, if_pos rfl, hi, Int.toNat_natCast], by unfold offT; rw [hu, if_pos rfl, hi, Int.toNat_natCast]⟩
    · rw [decide_eq_false e] at hu
      exact .inl ⟨e, by unfold offH; rw [hu]; rfl, by unfold offM; rw [hu]; rfl, by unfold offL; rw [hu]; rfl, by unfold offT; rw [hu]; rfl⟩
theorem LGood.addG {A : Tab} {T : Nat → Tk} (h : LGood A T) (p : Int) : LGood (addA A p) (addT A T p) := by
  rcases add_ways A T p with ⟨_, _, _, e1, e2⟩ | ⟨_, _, _, _, e1, e2⟩ | ⟨i, hp, hf, _, _, e1, e2⟩
  · rw [e1, e2]; exact h
  · rw [e1, e2]; exact h
  · rw [e1, e2]; exact h.add hf (tkN_ok hp)
theorem LGood.dropG {A : Tab} {T : Nat → Tk} (h : LGood A T) (x : Int) : LGood (dropA A x) (dropT A T x) := by
  rcases drop_ways A T x with ⟨_, _, _, e1, e2⟩ | ⟨i, hf, _, _, e1, e2⟩
  · rw [e1, e2]; exact h
  · rw [e1, e2]; exact h.drop hf
theorem LGood.pushG {A : Tab} {T : Nat → Tk} (h : LGood A T) (x : Int) (j : Jb) (now : Int) : LGood A (pushT A T x j now) := by
  rcases push_ways A T x j now with ⟨_, _, e⟩ | ⟨i, _, _, ⟨_, e⟩ | ⟨e0, e⟩⟩
  · rw [e]; exact h
  · rw [e]; exact h
  · rw [e]; exact h.set i (push_ok sN e0)
theorem LGood.offG {A : Tab} {T : Nat → Tk} (h : LGood A T) (now : Int) : LGood A (offT A T now) := by
  rcases off_ways A T now with ⟨_, _, _, _, e⟩ | ⟨i, _, _, _, _, ⟨_, _, _, _, e⟩ | ⟨e0, _, _, _, e⟩⟩
  · rw [e]; exact h
  · rw [e]; exact h
  · rw [e]; exact h.set i (run_ok sN e0)
/-- The handle of a slot that is taken names it. -/
theorem find_hd {A : Tab} (h : A.Good) {i : Nat} (hi : i < A.gens.length) (ht : A.t i = true) : A.find (A.hd i) = some i := by
  obtain ⟨h1, h2, h3, h4⟩ := hd_parts h hi ht
  exact find_some h hi ht h1 h2 h3 h4
end Go.Proofs.YtedgchafligndaaGreat
/- The program's table of tasks as it lies in memory: four cells, three rows of its own; what stays where others turn; nothing of the program is walked here; no condition. -/
namespace Go.Proofs.YtedgchafligndaaGreat
open Go.RowKit Tsk

theorem tkL_set (T : Nat → Tk) (n i : Nat) (x : Tk) : (((((((((tkL T n).set (i * 8) (.int .i64 x.p)).set (i * 8 + 1) x.s).set (i * 8 + 2) (.int .i64 x.k.g)).set (i * 8 + 3) (.int .i64 x.k.o)).set (i * 8 + 4) (.int .i64 x.k.n)).set (i * 8 + 5) (.int .i64 x.k.d)).set (i * 8 + 6) (.int .i64 x.k.c)).set (i * 8 + 7) (.int .i64 x.k.t)) = tkL (upd T i x) n := by
  unfold tkL
  rw [lst_set, lst_set, lst_set, lst_set, lst_set, lst_set, lst_set, lst_set]
  refine lst_congr fun j hj => ?_
  unfold upd
  by_cases hd : j / 8 = i
  · rw [if_pos hd]
    have hr : j % 8 = 0 ∨ j % 8 = 1 ∨ j % 8 = 2 ∨ j % 8 = 3 ∨ j % 8 = 4 ∨ j % 8 = 5 ∨ j % 8 = 6 ∨ j % 8 = 7 := by omega
    rcases hr with h | h | h | h | h | h | h | h <;> rw [h] <;> repeat (first | (rw [if_pos (by omega)]; rfl) | rw [if_neg (by omega)])
  · rw [if_neg hd]
    repeat rw [if_neg (by omega)]
/-- A task is laid over another one in a row of one's own. -/
theorem own_set8 {B : Nat} {w : World} {g3 c n m : Nat} {T : Nat → Tk} (h : w.ownsRow B KT 8 (.slice (some ⟨g3, 0, none⟩) m c) m (tkL T n)) (i : Nat) (x : Tk) :
    ((((((((w.setCell ⟨g3, i * 8, none⟩ (.int .i64 x.p)).setCell ⟨g3, i * 8 + 1, none⟩ x.s).setCell ⟨g3, i * 8 + 2, none⟩ (.int .i64 x.k.g)).setCell ⟨g3, i * 8 + 3, none⟩ (.int .i64 x.k.o)).setCell ⟨g3, i * 8 + 4, none⟩ (.int .i64 x.k.n)).setCell ⟨g3, i * 8 + 5, none⟩ (.int .i64 x.k.d)).setCell ⟨g3, i * 8 + 6, none⟩ (.int .i64 x.k.c)).setCell ⟨g3, i * 8 + 7, none⟩ (.int .i64 x.k.t)).ownsRow B KT 8 (.slice (some ⟨g3, 0, none⟩) m c) m (tkL (upd T i x) n) := by
  rw [← tkL_set]
  exact (((((((((h.stored _ _).1.stored _ _).1.stored _ _).1.stored _ _).1.stored _ _).1.stored _ _).1.stored _ _).1.stored _ _).1)
/-- What other rows see of it. -/
theorem far_set8 {S : Nat → Prop} {w0 w : World} (h : Keeps S w0 w) (g3 i : Nat) (x : Tk) (hS : S g3) : Keeps S w0 ((((((((w.setCell ⟨g3, i * 8, none⟩ (.int .i64 x.p)).setCell ⟨g3, i * 8 + 1, none⟩ x.s).setCell ⟨g3, i * 8 + 2, none⟩ (.int .i64 x.k.g)).setCell ⟨g3, i * 8 + 3, none⟩ (.int .i64 x.k.o)).setCell ⟨g3, i * 8 + 4, none⟩ (.int .i64 x.k.n)).setCell ⟨g3, i * 8 + 5, none⟩ (.int .i64 x.k.d)).setCell ⟨g3, i * 8 + 6, none⟩ (.int .i64 x.k.c)).setCell ⟨g3, i * 8 + 7, none⟩ (.int .i64 x.k.t)) :=
  (((((((h.setCell _ _ (.inl hS)).setCell _ _ (.inl hS)).setCell _ _ (.inl hS)).setCell _ _ (.inl hS)).setCell _ _ (.inl hS)).setCell _ _ (.inl hS)).setCell _ _ (.inl hS)).setCell _ _ (.inl hS)

/-- Three rows of its own, none the other. -/
structure OwnK (B : Nat) (w : World) (A : Tab) (T : Nat → Tk) (g1 c1 g2 c2 g3 c3 : Nat) : Prop where
  g : w.ownsRow B 3 1 (.slice (some ⟨g1, 0, none⟩) A.gens.length c1) A.gens.length (ints A.gens)
  t : w.ownsRow B 4 1 (.slice (some ⟨g2, 0, none⟩) A.taken.length c2) A.taken.length (bools A.taken)
  l : w.ownsRow B KT 8 (.slice (some ⟨g3, 0, none⟩) A.gens.length c3) A.gens.length (tkL T A.gens.length)
  n12 : g1 ≠ g2
  n13 : g1 ≠ g3
  n23 : g2 ≠ g3
/-- The program's table in a world. -/
structure PK (B : Nat) (w : World) (A : Tab) (T : Nat → Tk) (b g1 c1 g2 c2 g3 c3 : Nat) : Prop where
  f0 : w.cell? ⟨b, 0, none⟩ = some (.int .i64 A.kind)
  f1 : w.cell? ⟨b, 1, none⟩ = some (.slice (some ⟨g1, 0, none⟩) A.gens.length c1)
  f2 : w.cell? ⟨b, 2, none⟩ = some (.slice (some ⟨g2, 0, none⟩) A.taken.length c2)
  f3 : w.cell? ⟨b, 3, none⟩ = some (.slice (some ⟨g3, 0, none⟩) A.gens.length c3)
  own : OwnK B w A T g1 c1 g2 c2 g3 c3
  hb : B ≤ b
  n1 : b ≠ g1
  n2 : b ≠ g2
  n3 : b ≠ g3
/-- The same, its blocks S. -/
def PKTab (S : Nat → Prop) (B : Nat) (w : World) (A : Tab) (T : Nat → Tk) (v : Value) : Prop :=
  ∃ b g1 c1 g2 c2 g3 c3, v = .pointer (some ⟨b, 0, none⟩) ∧ PK B w A T b g1 c1 g2 c2 g3 c3 ∧ S = fun x => x = b ∨ x = g1 ∨ x = g2 ∨ x = g3
theorem PK.lts {B : Nat} {w : World} {A : Tab} {T : Nat → Tk} {b g1 c1 g2 c2 g3 c3 : Nat} (h : PK B w A T b g1 c1 g2 c2 g3 c3) : b < w.heap.size ∧ (B ≤ g1 ∧ g1 < w.heap.size) ∧ (B ≤ g2 ∧ g2 < w.heap.size) ∧ (B ≤ g3 ∧ g3 < w.heap.size) :=
  ⟨cell_lt h.f0, h.own.g.lt g1 rfl, h.own.t.lt g2 rfl, h.own.l.lt g3 rfl⟩
theorem PK.keeps {S : Nat → Prop} {B : Nat} {w w' : World} {A : Tab} {T : Nat → Tk} {b g1 c1 g2 c2 g3 c3 : Nat} (h : PK B w A T b g1 c1 g2 c2 g3 c3) (hk : Keeps S w w') (h0 : ¬ S b) (h1 : ¬ S g1) (h2 : ¬ S g2) (h3 : ¬ S g3) : PK B w' A T b g1 c1 g2 c2 g3 c3 := by
  obtain ⟨lb, _⟩ := h.lts
  have hc : ∀ o, w'.cell? ⟨b, o, none⟩ = w.cell? ⟨b, o, none⟩ := fun o => hk.cell (p := ⟨b, o, none⟩) lb h0
  exact ⟨(hc 0).trans h.f0, (hc 1).trans h.f1, (hc 2).trans h.f2, (hc 3).trans h.f3,
    ⟨own_keeps h.own.g hk (fun g e => by simp [Value.ownBlock] at e; subst e; exact h1), own_keeps h.own.t hk (fun g e => by simp [Value.ownBlock] at e; subst e; exact h2),
      own_keeps h.own.l hk (fun g e => by simp [Value.ownBlock] at e; subst e; exact h3), h.own.n12, h.own.n13, h.own.n23⟩, h.hb, h.n1, h.n2, h.n3⟩
theorem PK.below {B : Nat} {w w' : World} {A : Tab} {T : Nat → Tk} {b g1 c1 g2 c2 g3 c3 : Nat} (h : PK B w A T b g1 c1 g2 c2 g3 c3) (hb : Below w.heap.size w w') : PK B w' A T b g1 c1 g2 c2 g3 c3 :=
  h.keeps (S := fun _ => False) (Keeps.of_below hb) (fun k => k) (fun k => k) (fun k => k) (fun k => k)
theorem PKTab.lt {S : Nat → Prop} {B : Nat} {w : World} {A : Tab} {T : Nat → Tk} {v : Value} (h : PKTab S B w A T v) : ∀ x, S x → B ≤ x ∧ x < w.heap.size := by
  obtain ⟨b, g1, c1, g2, c2, g3, c3, rfl, h, rfl⟩ := h
  obtain ⟨lb, l1, l2, l3⟩ := h.lts
  have := h.hb
  rintro x (rfl | rfl | rfl | rfl)
  · exact ⟨this, lb⟩
  · exact l1
  · exact l2
  · exact l3
theorem PKTab.keeps {S R : Nat → Prop} {B : Nat} {w w' : World} {A : Tab} {T : Nat → Tk} {v : Value} (h : PKTab S B w A T v) (hk : Keeps R w w') (hd : ∀ x, S x → ¬ R x) : PKTab S B w' A T v := by
  obtain ⟨b, g1, c1, g2, c2, g3, c3, rfl, h, rfl⟩ := h
  exact ⟨b, g1, c1, g2, c2, g3, c3, rfl, h.keeps hk (hd b (by simp)) (hd g1 (by simp)) (hd g2 (by simp)) (hd g3 (by simp)), rfl⟩
theorem PKTab.below {S : Nat → Prop} {B : Nat} {w w' : World} {A : Tab} {T : Nat → Tk} {v : Value} (h : PKTab S B w A T v) (hb : Below w.heap.size w w') : PKTab S B w' A T v :=
  h.keeps (R := fun _ => False) (Keeps.of_below hb) (fun _ _ k => k)
theorem PK.drew {B : Nat} {w : World} {A : Tab} {T : Nat → Tk} {b g1 c1 g2 c2 g3 c3 : Nat} (h : PK B w A T b g1 c1 g2 c2 g3 c3) : PK B w.drew A T b g1 c1 g2 c2 g3 c3 :=
  h.keeps (S := fun _ => False) ((Keeps.refl _ w).drew) (fun k => k) (fun k => k) (fun k => k) (fun k => k)
theorem PK.taken {B : Nat} {w : World} {A : Tab} {T : Nat → Tk} {b g1 c1 g2 c2 g3 c3 : Nat} (h : PK B w A T b g1 c1 g2 c2 g3 c3) (i : Nat) (y : Bool) : PK B (w.setCell ⟨g2, i, none⟩ (.bool y)) { A with taken := A.taken.set i y } T b g1 c1 g2 c2 g3 c3 := by
  have hf : ∀ o, (w.setCell ⟨g2, i, none⟩ (.bool y)).cell? ⟨b, o, none⟩ = w.cell? ⟨b, o, none⟩ := fun o => World.cell?_setCell_far _ _ _ _ (fun e => h.n2 e.symm)
  have hst := (h.own.t.stored i (.bool y)).1
  rw [bools_set] at hst
  exact ⟨(hf _).trans h.f0, (hf _).trans h.f1, (hf _).trans (by simpa using h.f2), (hf _).trans h.f3,
    ⟨own_keeps h.own.g ((Keeps.refl (fun x => x = g2) w).setCell _ _ (.inl rfl)) (fun g e => by simp [Value.ownBlock] at e; subst e; exact h.own.n12), by simpa using hst, own_keeps h.own.l ((Keeps.refl (fun x => x = g2) w).setCell _ _ (.inl rfl)) (fun g e => by simp [Value.ownBlock] at e; subst e; exact fun e => h.own.n23 e.symm), h.own.n12, h.own.n13, h.own.n23⟩, h.hb, h.n1, h.n2, h.n3⟩
theorem PK.gens {B : Nat} {w : World} {A : Tab} {T : Nat → Tk} {b g1 c1 g2 c2 g3 c3 : Nat} (h : PK B w A T b g1 c1 g2 c2 g3 c3) (i : Nat) (y : Int) : PK B (w.setCell ⟨g1, i, none⟩ (.int .i64 y)) { A with gens := A.gens.set i y } T b g1 c1 g2 c2 g3 c3 := by
  have hf : ∀ o, (w.setCell ⟨g1, i, none⟩ (.int .i64 y)).cell? ⟨b, o, none⟩ = w.cell? ⟨b, o, none⟩ := fun o => World.cell?_setCell_far _ _ _ _ (fun e => h.n1 e.symm)
  have hst := (h.own.g.stored i (.int .i64 y)).1
  rw [ints_set] at hst
  have hk := (Keeps.refl (fun x => x = g1) w).setCell (⟨g1, i, none⟩ : Addr) (.int .i64 y) (.inl rfl)
  exact ⟨(hf _).trans h.f0, (hf _).trans (by simpa using h.f1), (hf _).trans h.f2, (hf _).trans (by simpa using h.f3),
    ⟨by simpa using hst, own_keeps h.own.t hk (fun g e => by simp [Value.ownBlock] at e; subst e; exact fun e => h.own.n12 e.symm), by simpa using own_keeps h.own.l hk (fun g e => by simp [Value.ownBlock] at e; subst e; exact fun e => h.own.n13 e.symm), h.own.n12, h.own.n13, h.own.n23⟩, h.hb, h.n1, h.n2, h.n3⟩
/-- Another task at a slot; the ints of A (which nobody reads here) may be any. -/
theorem PK.task {B : Nat} {w : World} {A : Tab} {T : Nat → Tk} {b g1 c1 g2 c2 g3 c3 : Nat} (h : PK B w A T b g1 c1 g2 c2 g3 c3) (i : Nat) (x : Tk) (l : List Int) : PK B ((((((((w.setCell ⟨g3, i * 8, none⟩ (.int .i64 x.p)).setCell ⟨g3, i * 8 + 1, none⟩ x.s).setCell ⟨g3, i * 8 + 2, none⟩ (.int .i64 x.k.g)).setCell ⟨g3, i * 8 + 3, none⟩ (.int .i64 x.k.o)).setCell ⟨g3, i * 8 + 4, none⟩ (.int .i64 x.k.n)).setCell ⟨g3, i * 8 + 5, none⟩ (.int .i64 x.k.d)).setCell ⟨g3, i * 8 + 6, none⟩ (.int .i64 x.k.c)).setCell ⟨g3, i * 8 + 7, none⟩ (.int .i64 x.k.t)) { A with list := l } (upd T i x) b g1 c1 g2 c2 g3 c3 := by
  have hk := far_set8 (Keeps.refl (fun y => y = g3) w) g3 i x rfl
  have lb := h.lts.1
  have hf : ∀ o, ((((((((w.setCell ⟨g3, i * 8, none⟩ (.int .i64 x.p)).setCell ⟨g3, i * 8 + 1, none⟩ x.s).setCell ⟨g3, i * 8 + 2, none⟩ (.int .i64 x.k.g)).setCell ⟨g3, i * 8 + 3, none⟩ (.int .i64 x.k.o)).setCell ⟨g3, i * 8 + 4, none⟩ (.int .i64 x.k.n)).setCell ⟨g3, i * 8 + 5, none⟩ (.int .i64 x.k.d)).setCell ⟨g3, i * 8 + 6, none⟩ (.int .i64 x.k.c)).setCell ⟨g3, i * 8 + 7, none⟩ (.int .i64 x.k.t)).cell? ⟨b, o, none⟩ = w.cell? ⟨b, o, none⟩ := fun o => hk.cell (p := ⟨b, o, none⟩) lb h.n3
  exact ⟨(hf _).trans h.f0, (hf _).trans h.f1, (hf _).trans h.f2, (hf _).trans h.f3,
    ⟨own_keeps h.own.g hk (fun g e => by simp [Value.ownBlock] at e; subst e; exact h.own.n13), own_keeps h.own.t hk (fun g e => by simp [Value.ownBlock] at e; subst e; exact h.own.n23), own_set8 h.own.l i x, h.own.n12, h.own.n13, h.own.n23⟩, h.hb, h.n1, h.n2, h.n3⟩
/-- A task's cells in the table. -/
theorem PK.cells {B : Nat} {w : World} {A : Tab} {T : Nat → Tk} {b g1 c1 g2 c2 g3 c3 : Nat} (h : PK B w A T b g1 c1 g2 c2 g3 c3) {i : Nat} (hi : i < A.gens.length) :
    w.cell? ⟨g3, i * 8, none⟩ = some (.int .i64 (T i).p) ∧ w.cell? ⟨g3, i * 8 + 1, none⟩ = some (T i).s ∧ w.cell? ⟨g3, i * 8 + 2, none⟩ = some (.int .i64 (T i).k.g) ∧ w.cell? ⟨g3, i * 8 + 3, none⟩ = some (.int .i64 (T i).k.o) ∧ w.cell? ⟨g3, i * 8 + 4, none⟩ = some (.int .i64 (T i).k.n) ∧ w.cell? ⟨g3, i * 8 + 5, none⟩ = some (.int .i64 (T i).k.d) ∧ w.cell? ⟨g3, i * 8 + 6, none⟩ = some (.int .i64 (T i).k.c) ∧ w.cell? ⟨g3, i * 8 + 7, none⟩ = some (.int .i64 (T i).k.t) ∧ ∀ j, w.frozen? ⟨g3, j, none⟩ = false := by
  have c := fun (r : Nat) (hr : r < 8) => (World.ownsRow.cellAt h.own.l (i * 8 + r) (by omega)).trans (tkL_at T hi r hr)
  exact ⟨c 0 (by omega), c 1 (by omega), c 2 (by omega), c 3 (by omega), c 4 (by omega), c 5 (by omega), c 6 (by omega), c 7 (by omega), fun j => h.own.l.frozenAt j⟩
end Go.Proofs.YtedgchafligndaaGreat
/- The program's handleAt, find, Get, Len of a table; no condition but those that each row names. -/
namespace Go.Proofs.YtedgchafligndaaGreat
open Go.RowKit Tsk

set_option maxHeartbeats 1000000 in
set_option maxRecDepth 100000 in
theorem khandle (B : Nat) (A : Tab) (T : Nat → Tk) (hA : A.Good) (w : World) (b g1 c1 g2 c2 g3 c3 : Nat) (h : PK B w A T b g1 c1 g2 c2 g3 c3) (i : Nat) (hi : i < A.gens.length) (hi2 : A.g i ≤ 1023) :
    Calls Tryz.prog 51 #[.pointer (some ⟨b, 0, none⟩), .int .i64 i] w fun e w' => e = .returned (.int .i64 (A.hd i)) ∧ ∃ n, w' = w.drewN n := by
  have n4 := hA.n4
  have hp : okP A.kind i (A.g i) := ⟨hA.k1, hA.k3, by omega, by omega, (hA.g1 i hi).1, hi2⟩
  have HM := Lib.hid (fun w => make_ok A.kind i (A.g i) w hp)
  have q := h.own.g.cellAt i (by omega)
  rw [ints_at hi] at q
  have f0 := h.f0
  have f1 := h.f1
  have hh : A.hd i = mkH A.kind i (A.g i) := rfl
  rw [hh]
  have hg : A.gens.getD i 0 = A.g i := rfl
  rw [hg] at q
  generalize mkH A.kind i (A.g i) = y at *
  generalize A.g i = gv at *
  have z0 : (0 : Int) ≤ (i : Int) := by omega
  have z1 : (i : Int) < (A.gens.length : Int) := by omega
  clear hp hh hg h hA hi2
  go_enter Tryz.func51, Tryz.ntmps51
  go_wp2_with fail
  go_quiet ((go_at_call 73; exact Calls.quiet_of_same ((HM.out _).mono fun _ _ h => ⟨h.1, h.2.symm⟩)))
  go_wp2_with fail
  go_ret
  exact ⟨rfl, _, rfl⟩

/-- What find answers. -/
def findV (A : Tab) (x : Int) : Value := match A.find x with
  | none => .tuple #[.int .i64 0, .iface 65 (.int .i64 20)]
  | some i => .tuple #[.int .i64 i, .nilIface]

set_option maxHeartbeats 1000000 in
set_option maxRecDepth 100000 in
theorem kfind (B : Nat) (A : Tab) (T : Nat → Tk) (hA : A.Good) (w : World) (b g1 c1 g2 c2 g3 c3 : Nat) (h : PK B w A T b g1 c1 g2 c2 g3 c3) (x : Int) :
    Calls Tryz.prog 55 #[.pointer (some ⟨b, 0, none⟩), .int .i64 x] w fun e w' => e = .returned (findV A x) ∧ Below w.heap.size w w' := by
  have n4 := hA.n4
  have hlt := hA.lt
  by_cases hok : okH x
  · have HS := Lib.hid (fun w => slot_ok x w hok)
    have s0 := (sOf_nonneg x).1
    by_cases hs : sOf x < A.gens.length
    · obtain ⟨i, hi⟩ := Int.eq_ofNat_of_zero_le s0
      have hil : i < A.gens.length := by omega
      have f2 := h.f2
      have q := h.own.t.cellAt i (by omega)
      rw [bools_at (by omega)] at q
      rw [hi] at HS
      rw [hlt] at f2
      have z0 : (0 : Int) ≤ (i : Int) := by omega
      have z1 : (i : Int) < (A.gens.length : Int) := by omega
      by_cases ht : A.taken.getD i false = true
      · have HH := Lib.hid (khandle B A T hA w b g1 c1 g2 c2 g3 c3 h i hil (hA.gt i hil ht))
        rw [ht] at q
        by_cases hx : A.hd i = x
        · have hv : findV A x = .tuple #[.int .i64 i, .nilIface] := by
            have : A.find x = some i := find_some hA hil ht hok (by rw [← hx]; exact (hd_parts hA hil ht).2.1) hi (by rw [← hx]; exact (hd_parts hA hil ht).2.2.2)
            unfold findV; rw [this]
          rw [hv]
          have hq : (A.hd i != x) = false := by simp [hx]
          generalize A.hd i = y at *
          clear hv hx h ht hi hA hs
          go_enter Tryz.func55, Tryz.ntmps55
          go_wp2_with fail
          refine (HS.out _).mono ?_
          rintro e w1 ⟨rfl, rfl⟩
          go_wp2_with fail
          refine HH.out.mono ?_
          rintro e w1 ⟨rfl, n, rfl⟩
          go_wp2_with fail
          go_ret2
          exact ⟨rfl, below_drewN (Below.refl _ _) n⟩
        · have hv : findV A x = .tuple #[.int .i64 0, .iface 65 (.int .i64 20)] := by
            have : A.find x = none := firstIn_none fun j hj => by
              rw [Bool.eq_false_iff]
              intro k
              obtain ⟨_, _, _, k3, k4⟩ := (is_iff hA x hj).1 k
              have : j = i := by omega
              subst this
              unfold Tab.is at k
              simp at k
              exact hx k.2
            unfold findV; rw [this]
          rw [hv]
          have hq : (A.hd i != x) = true := by simp [hx]
          generalize A.hd i = y at *
          clear hv hx h ht hi hA hs
          go_enter Tryz.func55, Tryz.ntmps55
          go_wp2_with fail
          refine (HS.out _).mono ?_
          rintro e w1 ⟨rfl, rfl⟩
          go_wp2_with fail
          refine HH.out.mono ?_
          rintro e w1 ⟨rfl, n, rfl⟩
          go_wp2_with fail
          go_ret2
          exact ⟨rfl, below_drewN (Below.refl _ _) n⟩
      · have hf : A.taken.getD i false = false := by simpa using ht
        have hv : findV A x = .tuple #[.int .i64 0, .iface 65 (.int .i64 20)] := by
          have : A.find x = none := find_none hA fun j hj htj _ _ hsj _ => by
            have : j = i := by omega
            subst this
            exact ht htj
          unfold findV; rw [this]
        rw [hv]
        rw [hf] at q
        clear hv h ht hi hA hs hf
        go_enter Tryz.func55, Tryz.ntmps55
        go_wp2_with fail
        refine (HS.out _).mono ?_
        rintro e w1 ⟨rfl, rfl⟩
        go_wp2_with fail
        go_ret2
        exact ⟨rfl, Below.refl _ _⟩
    · have hv : findV A x = .tuple #[.int .i64 0, .iface 65 (.int .i64 20)] := by
        have : A.find x = none := find_none hA fun j hj _ _ _ hsj _ => by omega
        unfold findV; rw [this]
      rw [hv]
      have f2 := h.f2
      rw [hlt] at f2
      generalize sOf x = s at *
      have hs2 : (A.gens.length : Int) ≤ s := by omega
      clear hv h hs hA
      go_enter Tryz.func55, Tryz.ntmps55
      go_wp2_with fail
      refine (HS.out _).mono ?_
      rintro e w1 ⟨rfl, rfl⟩
      go_wp2_with fail
      go_ret2
      exact ⟨rfl, Below.refl _ _⟩
  · have HS := Lib.hid (fun w => slot_no x w hok)
    have hv : findV A x = .tuple #[.int .i64 0, .iface 65 (.int .i64 20)] := by
      have : A.find x = none := find_none hA fun j hj _ h2 _ _ _ => hok h2
      unfold findV; rw [this]
    rw [hv]
    clear hv h hok hA
    go_enter Tryz.func55, Tryz.ntmps55
    go_wp2_with fail
    refine (HS.out _).mono ?_
    rintro e w1 ⟨rfl, rfl⟩
    go_wp2_with fail
    go_ret2
    exact ⟨rfl, Below.refl _ _⟩
theorem findV_none {A : Tab} {x : Int} (h : A.find x = none) : findV A x = .tuple #[.int .i64 0, .iface 65 (.int .i64 20)] := by unfold findV; rw [h]
theorem findV_some {A : Tab} {x : Int} {i : Nat} (h : A.find x = some i) : findV A x = .tuple #[.int .i64 i, .nilIface] := by unfold findV; rw [h]
end Go.Proofs.YtedgchafligndaaGreat
/- The program's Get, Set of a table of tasks; no condition but those that each row names. -/
namespace Go.Proofs.YtedgchafligndaaGreat
open Go.RowKit Tsk

/-- What is answered of a table that has turned. -/
def ActK (S : Nat → Prop) (B : Nat) (w : World) (A' : Tab) (T' : Nat → Tk) (v r : Value) (e : Ending) (w' : World) : Prop := e = .returned r ∧ PKTab S B w' A' T' v ∧ Keeps S w w'
theorem hasT_new (w : World) (p : Int) (s : Value) (k : Ac) : HasT (w.alloc (.cells #[.int .i64 p, s, .int .i64 k.g, .int .i64 k.o, .int .i64 k.n, .int .i64 k.d, .int .i64 k.c, .int .i64 k.t] KT)) w.heap.size p s k := has_new _ _ _ rfl
/-- The jobs of tasks are slices. -/
def IsSl (T : Nat → Tk) : Prop := ∀ i, ∃ p c, (T i).s = .slice p (T i).n c
theorem keeps_below {S : Nat → Prop} {w w1 w2 : World} (hb : Below w.heap.size w w1) (h : Keeps S w1 w2) : Keeps S w w2 := (Keeps.of_below hb).trans h
theorem below8 {B g : Nat} {w W : World} (h : Below B w W) (hg : B ≤ g) (v0 v1 v2 v3 v4 v5 v6 v7 : Value) : Below B w ((((((((W.setCell ⟨g, 0, none⟩ v0).setCell ⟨g, 1, none⟩ v1).setCell ⟨g, 2, none⟩ v2).setCell ⟨g, 3, none⟩ v3).setCell ⟨g, 4, none⟩ v4).setCell ⟨g, 5, none⟩ v5).setCell ⟨g, 6, none⟩ v6).setCell ⟨g, 7, none⟩ v7) :=
  below_low (below_low (below_low (below_low (below_low (below_low (below_low (below_low h _ _ hg) _ _ hg) _ _ hg) _ _ hg) _ _ hg) _ _ hg) _ _ hg) _ _ hg
theorem below8a {B g : Nat} {w W : World} (h : Below B w W) (hg : B ≤ g) (hs : B ≤ W.heap.size) (v0 v1 v2 v3 v4 v5 v6 v7 : Value) (o : Obj) : Below B w (((((((((W.setCell ⟨g, 0, none⟩ v0).setCell ⟨g, 1, none⟩ v1).setCell ⟨g, 2, none⟩ v2).setCell ⟨g, 3, none⟩ v3).setCell ⟨g, 4, none⟩ v4).setCell ⟨g, 5, none⟩ v5).setCell ⟨g, 6, none⟩ v6).setCell ⟨g, 7, none⟩ v7).alloc o) :=
  (below8 h hg v0 v1 v2 v3 v4 v5 v6 v7).alloc (by simpa [World.setCell] using hs) o

set_option maxHeartbeats 2000000 in
set_option maxRecDepth 100000 in
theorem kget_none (S : Nat → Prop) (B : Nat) (A : Tab) (hA : A.Good) (T : Nat → Tk) (w : World) (v : Value) (h : PKTab S B w A T v) (x : Int) (hf : A.find x = none) :
    Calls Tryz.prog 59 #[v, .int .i64 x] w fun e w' => e = .returned (.tuple #[zT, errV 20]) ∧ Below w.heap.size w w' := by
  obtain ⟨b, g1, c1, g2, c2, g3, c3, rfl, h, _⟩ := h
  have HF := Lib.hid (fun W (hb : Below w.heap.size w W) => kfind B A T hA W b g1 c1 g2 c2 g3 c3 (h.below hb) x)
  rw [findV_none hf] at HF
  obtain ⟨WA, hWA⟩ : ∃ WA, WA = w.alloc (.cells #[.int .i64 0, .slice none 0 0, .int .i64 0, .int .i64 0, .int .i64 0, .int .i64 0, .int .i64 0, .int .i64 0] KT) := ⟨_, rfl⟩
  have HB := Lib.hid (show Below w.heap.size w WA from by rw [hWA]; exact (Below.refl _ _).alloc (Nat.le_refl _) _)
  have HT := Lib.hid (show HasT WA w.heap.size 0 (.slice none 0 0) kZ from by rw [hWA]; exact hasT_new w 0 _ kZ)
  have HW := Lib.hid hWA
  clear hWA h hA hf
  go_enter Tryz.func59, Tryz.ntmps59
  go_upto_region 1 with fail
  rw [← HW.out]
  go_wp2_with fail
  refine (HF.out _ HB.out).mono ?_
  rintro e w1 ⟨rfl, hb⟩
  have HB1 := Lib.hid (bnext HB.out hb)
  have HT1 := HT.out.below hb
  obtain ⟨x0, x1, x2, x3, x4, x5, x6, x7⟩ := HT1.cells
  have fr := fun j => has_free HT1 j
  have hlt := has_lt HT1
  have HL := Lib.hid (show w.heap.size ≤ w1.heap.size from by omega)
  clear HT1 hb
  go_wp2_with fail
  refine bodyPost_ret (v := .tuple #[zT, .iface 65 (.int .i64 20)]) (by simp [results, Tryz.results59, go_sem, x0, x1, x2, x3, x4, x5, x6, x7, hlt]) rfl ⟨rfl, ?_⟩
  exact below8a HB1.out (Nat.le_refl _) HL.out _ _ _ _ _ _ _ _ _
set_option maxHeartbeats 2000000 in
set_option maxRecDepth 100000 in
theorem kget_some (S : Nat → Prop) (B : Nat) (A : Tab) (hA : A.Good) (T : Nat → Tk) (w : World) (v : Value) (h : PKTab S B w A T v) (hT : IsSl T) (x : Int) (i : Nat) (hf : A.find x = some i) :
    Calls Tryz.prog 59 #[v, .int .i64 x] w fun e w' => e = .returned (.tuple #[tV (T i).p (T i).s (T i).k, .nilIface]) ∧ Below w.heap.size w w' := by
  obtain ⟨b, g1, c1, g2, c2, g3, c3, rfl, h, _⟩ := h
  have HF := Lib.hid (fun W (hb : Below w.heap.size w W) => kfind B A T hA W b g1 c1 g2 c2 g3 c3 (h.below hb) x)
  rw [findV_some hf] at HF
  obtain ⟨hi, _, _⟩ := find_inv hf
  have n4 := hA.n4
  have HP := Lib.hid (fun W (hb : Below w.heap.size w W) => h.below hb)
  obtain ⟨WA, hWA⟩ : ∃ WA, WA = w.alloc (.cells #[.int .i64 0, .slice none 0 0, .int .i64 0, .int .i64 0, .int .i64 0, .int .i64 0, .int .i64 0, .int .i64 0] KT) := ⟨_, rfl⟩
  have HB := Lib.hid (show Below w.heap.size w WA from by rw [hWA]; exact (Below.refl _ _).alloc (Nat.le_refl _) _)
  have HT := Lib.hid (show HasT WA w.heap.size 0 (.slice none 0 0) kZ from by rw [hWA]; exact hasT_new w 0 _ kZ)
  have HW := Lib.hid hWA
  obtain ⟨t, ht⟩ : ∃ t, t = T i := ⟨_, rfl⟩
  rw [← ht]
  have HTI := Lib.hid ht
  clear hWA h hA hf ht
  obtain ⟨tq, tc, hq⟩ := hT i
  rw [← HTI.out] at hq
  obtain ⟨tp, ts, tn, tf, ⟨kg, ko, kn, kd, kc, kt⟩⟩ := t
  dsimp only at hq
  subst hq
  dsimp only
  go_enter Tryz.func59, Tryz.ntmps59
  go_upto_region 1 with fail
  rw [← HW.out]
  go_wp2_with fail
  refine (HF.out _ HB.out).mono ?_
  rintro e w1 ⟨rfl, hb⟩
  have HB1 := Lib.hid (bnext HB.out hb)
  have HT1 := HT.out.below hb
  obtain ⟨x0, x1, x2, x3, x4, x5, x6, x7⟩ := HT1.cells
  have fr := fun j => has_free HT1 j
  have h1 := HP.out w1 HB1.out
  have f3 := h1.f3
  obtain ⟨q0, q1, q2, q3, q4, q5, q6, q7, _⟩ := h1.cells hi
  rw [← HTI.out] at q0 q1 q2 q3 q4 q5 q6 q7
  dsimp only at q0 q1 q2 q3 q4 q5 q6 q7
  have z0 : (0 : Int) ≤ (i : Int) := by omega
  have z1 : (i : Int) < (A.gens.length : Int) := by omega
  clear HT1 hb h1
  go_wp2_with fail
  refine bodyPost_ret (v := .tuple #[tV tp (.slice tq tn tc) ⟨kg, ko, kn, kd, kc, kt⟩, .nilIface]) (by simp [results, Tryz.results59, go_sem, x0, x1, x2, x3, x4, x5, x6, x7]) rfl ⟨rfl, ?_⟩
  exact below8 HB1.out (Nat.le_refl _) _ _ _ _ _ _ _ _
set_option maxHeartbeats 2000000 in
set_option maxRecDepth 100000 in
theorem kset_none (S : Nat → Prop) (B : Nat) (A : Tab) (hA : A.Good) (T : Nat → Tk) (w : World) (v : Value) (h : PKTab S B w A T v) (x p : Int) (s : Value) (k : Ac) (hf : A.find x = none) :
    Calls Tryz.prog 23 #[v, .int .i64 x, tV p s k] w fun e w' => e = .returned (errV 20) ∧ Below w.heap.size w w' := by
  obtain ⟨b, g1, c1, g2, c2, g3, c3, rfl, h, _⟩ := h
  obtain ⟨kg, ko, kn, kd, kc, kt⟩ := k
  have HF := Lib.hid (fun W (hb : Below w.heap.size w W) => kfind B A T hA W b g1 c1 g2 c2 g3 c3 (h.below hb) x)
  rw [findV_none hf] at HF
  obtain ⟨WA, hWA⟩ : ∃ WA, WA = w.alloc (.cells #[.int .i64 p, s, .int .i64 kg, .int .i64 ko, .int .i64 kn, .int .i64 kd, .int .i64 kc, .int .i64 kt] KT) := ⟨_, rfl⟩
  have HB := Lib.hid (show Below w.heap.size w WA from by rw [hWA]; exact (Below.refl _ _).alloc (Nat.le_refl _) _)
  have HW := Lib.hid hWA
  clear hWA h hA hf
  go_enter Tryz.func23, Tryz.ntmps23
  go_upto_region 1 with fail
  rw [← HW.out]
  go_wp2_with fail
  refine (HF.out _ HB.out).mono ?_
  rintro e w1 ⟨rfl, hb⟩
  have HB1 := Lib.hid (bnext HB.out hb)
  clear hb
  go_wp2_with fail
  go_ret
  exact ⟨rfl, HB1.out⟩
set_option maxHeartbeats 4000000 in
set_option maxRecDepth 100000 in
theorem kset_some (S : Nat → Prop) (B : Nat) (A : Tab) (hA : A.Good) (T : Nat → Tk) (w : World) (v : Value) (h : PKTab S B w A T v) (x p : Int) (q : Option Addr) (n c : Nat) (f : Nat → Jb) (k : Ac) (i : Nat) (hf : A.find x = some i) :
    Calls Tryz.prog 23 #[v, .int .i64 x, tV p (.slice q n c) k] w (ActK S B w A (upd T i ⟨p, .slice q n c, n, f, k⟩) v .nilIface) := by
  obtain ⟨b, g1, c1, g2, c2, g3, c3, rfl, h, HS⟩ := h
  obtain ⟨kg, ko, kn, kd, kc, kt⟩ := k
  have HF := Lib.hid (fun W (hb : Below w.heap.size w W) => kfind B A T hA W b g1 c1 g2 c2 g3 c3 (h.below hb) x)
  rw [findV_some hf] at HF
  obtain ⟨hi, _, _⟩ := find_inv hf
  have n4 := hA.n4
  have HP := Lib.hid (fun W (hb : Below w.heap.size w W) => h.below hb)
  obtain ⟨WA, hWA⟩ : ∃ WA, WA = w.alloc (.cells #[.int .i64 p, .slice q n c, .int .i64 kg, .int .i64 ko, .int .i64 kn, .int .i64 kd, .int .i64 kc, .int .i64 kt] KT) := ⟨_, rfl⟩
  have HB := Lib.hid (show Below w.heap.size w WA from by rw [hWA]; exact (Below.refl _ _).alloc (Nat.le_refl _) _)
  have HT := Lib.hid (show HasT WA w.heap.size p (.slice q n c) ⟨kg, ko, kn, kd, kc, kt⟩ from by rw [hWA]; exact hasT_new w p (.slice q n c) ⟨kg, ko, kn, kd, kc, kt⟩)
  have HW := Lib.hid hWA
  have HS2 := Lib.hid HS
  clear hWA h hA hf HS
  go_enter Tryz.func23, Tryz.ntmps23
  go_upto_region 1 with fail
  rw [← HW.out]
  go_wp2_with fail
  refine (HF.out _ HB.out).mono ?_
  rintro e w1 ⟨rfl, hb⟩
  have HB1 := Lib.hid (bnext HB.out hb)
  have HT1 := HT.out.below hb
  obtain ⟨x0, x1, x2, x3, x4, x5, x6, x7⟩ := HT1.cells
  have h1 := HP.out w1 HB1.out
  have H1 := Lib.hid h1
  have f3 := h1.f3
  obtain ⟨q0, q1, q2, q3, q4, q5, q6, q7, fr⟩ := h1.cells hi
  generalize (T i).p = y0 at *
  generalize (T i).s = y1 at *
  generalize (T i).k.g = y2 at *
  generalize (T i).k.o = y3 at *
  generalize (T i).k.n = y4 at *
  generalize (T i).k.d = y5 at *
  generalize (T i).k.c = y6 at *
  generalize (T i).k.t = y7 at *
  have z0 : (0 : Int) ≤ (i : Int) := by omega
  have z1 : (i : Int) < (A.gens.length : Int) := by omega
  clear HT1 hb h1
  go_wp2_with fail
  go_region
  go_wp2_with fail
  go_ret
  have h2 := (H1.out.task i ⟨p, .slice q n c, n, f, ⟨kg, ko, kn, kd, kc, kt⟩⟩ A.list).drew
  exact ⟨rfl, ⟨b, g1, c1, g2, c2, g3, c3, rfl, h2, HS2.out⟩, (keeps_below HB1.out (far_set8 (Keeps.refl S w1) g3 i ⟨p, .slice q n c, n, f, ⟨kg, ko, kn, kd, kc, kt⟩⟩ (by rw [HS2.out]; simp))).drew⟩
end Go.Proofs.YtedgchafligndaaGreat
/- The program's Drop, Add of a table of tasks; no condition but those that each row names. -/
namespace Go.Proofs.YtedgchafligndaaGreat
open Go.RowKit Tsk

set_option maxHeartbeats 1000000 in
set_option maxRecDepth 100000 in
theorem kdrop_none (S : Nat → Prop) (B : Nat) (A : Tab) (hA : A.Good) (T : Nat → Tk) (w : World) (v : Value) (h : PKTab S B w A T v) (x : Int) (hf : A.find x = none) :
    Calls Tryz.prog 45 #[v, .int .i64 x] w fun e w' => e = .returned (errV 20) ∧ Below w.heap.size w w' := by
  obtain ⟨b, g1, c1, g2, c2, g3, c3, rfl, h, _⟩ := h
  have HF := Lib.hid (kfind B A T hA w b g1 c1 g2 c2 g3 c3 h x)
  rw [findV_none hf] at HF
  clear hf h hA
  go_enter Tryz.func45, Tryz.ntmps45
  go_wp2_with fail
  refine HF.out.mono ?_
  rintro e w1 ⟨rfl, hb⟩
  have HB := Lib.hid hb
  clear hb
  go_wp2_with fail
  go_ret
  exact ⟨rfl, HB.out⟩
set_option maxHeartbeats 4000000 in
set_option maxRecDepth 100000 in
theorem kdrop_some (S : Nat → Prop) (B : Nat) (A : Tab) (hA : A.Good) (T : Nat → Tk) (w : World) (v : Value) (h : PKTab S B w A T v) (x : Int) (i : Nat) (hf : A.find x = some i) :
    Calls Tryz.prog 45 #[v, .int .i64 x] w (ActK S B w (A.dropAt i) (upd T i tk0) v .nilIface) := by
  obtain ⟨b, g1, c1, g2, c2, g3, c3, rfl, h, HS⟩ := h
  have HF := Lib.hid (kfind B A T hA w b g1 c1 g2 c2 g3 c3 h x)
  rw [findV_some hf] at HF
  obtain ⟨hi, _, _⟩ := find_inv hf
  have hlt := hA.lt
  have n4 := hA.n4
  obtain ⟨gg0, gg1⟩ := hA.g1 i hi
  have HP := Lib.hid (fun W (hb : Below w.heap.size w W) => h.below hb)
  have HS2 := Lib.hid HS
  clear hf h hA HS
  go_enter Tryz.func45, Tryz.ntmps45
  go_wp2_with fail
  refine HF.out.mono ?_
  rintro e w1 ⟨rfl, hb⟩
  have HG := Lib.hid (show g2 < w1.heap.size ∧ g3 < w1.heap.size from ⟨(HP.out w1 hb).lts.2.2.1.2, (HP.out w1 hb).lts.2.2.2.2⟩)
  obtain ⟨W1, hW1⟩ : ∃ W1, W1 = w1.alloc (.cells #[.int .i64 0, .slice none 0 0, .int .i64 0, .int .i64 0, .int .i64 0, .int .i64 0, .int .i64 0, .int .i64 0] KT) := ⟨_, rfl⟩
  have HB1 := Lib.hid (show Below w.heap.size w W1 from by rw [hW1]; exact hb.alloc hb.size _)
  have HT1 := Lib.hid (show HasT W1 w1.heap.size 0 (.slice none 0 0) kZ from by rw [hW1]; exact hasT_new w1 0 _ kZ)
  have HW := Lib.hid hW1
  clear hW1 hb
  go_upto_region 5 with fail
  rw [← HW.out]
  obtain ⟨x0, x1, x2, x3, x4, x5, x6, x7⟩ := HT1.out.cells
  have h1 := HP.out W1 HB1.out
  have H1 := Lib.hid h1
  have f2 := h1.f2
  have f3 := h1.f3
  obtain ⟨q0, q1, q2, q3, q4, q5, q6, q7, fr⟩ := h1.cells hi
  generalize (T i).p = y0 at *
  generalize (T i).s = y1 at *
  generalize (T i).k.g = y2 at *
  generalize (T i).k.o = y3 at *
  generalize (T i).k.n = y4 at *
  generalize (T i).k.d = y5 at *
  generalize (T i).k.c = y6 at *
  generalize (T i).k.t = y7 at *
  have p3 := h1.own.t.cellAt i (by omega)
  have p4 := h1.own.t.frozenAt i
  have n23 := h1.own.n23
  have n32 : ¬ g3 = g2 := fun e => n23 e.symm
  have m2 := h1.n2
  have m3 := h1.n3
  obtain ⟨k2, k3⟩ := HG.out
  have k4 : ¬ w1.heap.size = g2 := by omega
  have k5 : ¬ w1.heap.size = g3 := by omega
  have k6 : ¬ g2 = w1.heap.size := by omega
  have k7 : ¬ g3 = w1.heap.size := by omega
  have z0 : (0 : Int) ≤ (i : Int) := by omega
  have z1 : (i : Int) < (A.gens.length : Int) := by omega
  rw [hlt] at f2
  rw [bools_at (by omega)] at p3
  clear h1 k2 k3
  go_cut [] (fun wx => Hid (PK B wx { A with taken := A.taken.set i false, list := A.list.set i 0 } (upd T i tk0) b g1 c1 g2 c2 g3 c3) ∧ Hid (Keeps S W1 wx))
  case first =>
    go_region
    go_wp2_with fail
    go_meet
    exact ⟨Lib.hid ((H1.out.taken i false).task i tk0 (A.list.set i 0)).drew, Lib.hid (far_set8 ((Keeps.refl S W1).setS _ _ (by rw [HS2.out]; simp)) g3 i tk0 (by rw [HS2.out]; simp)).drew⟩
  case rest =>
    obtain ⟨K1, K2⟩ := hcut
    have f1 := K1.out.f1
    simp only at f1
    have p1 := K1.out.own.g.cellAt i (by simp; omega)
    have p2 := K1.out.own.g.frozenAt i
    simp only [] at p1
    rw [ints_at hi] at p1
    have hg : A.gens.getD i 0 = A.g i := rfl
    rw [hg] at p1
    clear f2 f3 p3 p4 q0 q1 q2 q3 q4 q5 q6 q7 fr x0 x1 x2 x3 x4 x5 x6 x7 hg
    go_wp2_with fail
    go_ret
    refine ⟨rfl, ⟨b, g1, c1, g2, c2, g3, c3, rfl, ?_, HS2.out⟩, ?_⟩
    · exact K1.out.gens i (A.g i + 1)
    · exact (keeps_below HB1.out K2.out).setS _ _ (by rw [HS2.out]; simp)
set_option maxHeartbeats 1000000 in
set_option maxRecDepth 100000 in
theorem kadd_none (S : Nat → Prop) (B : Nat) (A : Tab) (hA : A.Good) (T : Nat → Tk) (w : World) (v : Value) (h : PKTab S B w A T v) (p : Int) (s : Value) (k : Ac) (hf : A.free = none) :
    Calls Tryz.prog 47 #[v, tV p s k] w fun e w' => e = .returned (.tuple #[.int .i64 0, errV 30]) ∧ Below w.heap.size w w' := by
  obtain ⟨b, g1, c1, g2, c2, g3, c3, rfl, h, _⟩ := h
  obtain ⟨kg, ko, kn, kd, kc, kt⟩ := k
  have HF := Lib.hid (firstIn_inv_none hf)
  have hlt := hA.lt
  have n4 := hA.n4
  obtain ⟨WA, hWA⟩ : ∃ WA, WA = w.alloc (.cells #[.int .i64 p, s, .int .i64 kg, .int .i64 ko, .int .i64 kn, .int .i64 kd, .int .i64 kc, .int .i64 kt] KT) := ⟨_, rfl⟩
  have HB := Lib.hid (show Below w.heap.size w WA from by rw [hWA]; exact (Below.refl _ _).alloc (Nat.le_refl _) _)
  have HA1 := Lib.hid (h.below HB.out)
  have HW := Lib.hid hWA
  have f1 := HA1.out.f1
  have f2 := HA1.out.f2
  rw [hlt] at f2
  have HLT := Lib.hid hlt
  clear hWA hf h hA hlt
  go_enter Tryz.func47, Tryz.ntmps47
  go_upto_region 1 with fail
  rw [← HW.out]
  go_wp2_with fail
  go_loop [6, 7, 13] (fun _ _ i => ∃ k : Nat, k ≤ A.gens.length ∧ i = .int .i64 k) (fun _ _ i => A.gens.length - (intOf i).toNat)
  case atStart => exact ⟨0, Nat.zero_le _, rfl⟩
  case round =>
    obtain ⟨k, hk, rfl⟩ := hrel
    by_cases hlt : k < A.gens.length
    · have q := HA1.out.own.g.cellAt k (by omega)
      rw [ints_at hlt] at q
      have q3 := HA1.out.own.t.cellAt k (by have := HLT.out; omega)
      rw [bools_at (by have := HLT.out; omega)] at q3
      have hf := HF.out k hlt
      unfold Tab.fr Tab.t Tab.g at hf
      have z0 : (0 : Int) ≤ (k : Int) := by omega
      have z1 : (k : Int) < (A.gens.length : Int) := by omega
      generalize A.gens.getD k 0 = g at *
      generalize A.taken.getD k false = t at *
      cases t with
      | true =>
        clear hf
        go_wp2_with fail
        go_round
        case rel => exact ⟨k + 1, by omega, by go_num⟩
        case measure => simp [intOf]; omega
      | false =>
        have h2 : 1023 < g := by simp at hf; omega
        clear hf
        go_wp2_with fail
        go_round
        case rel => exact ⟨k + 1, by omega, by go_num⟩
        case measure => simp [intOf]; omega
    · go_wp2_with fail
      go_ret2
      exact ⟨rfl, HB.out⟩

set_option maxHeartbeats 4000000 in
set_option maxRecDepth 100000 in
theorem kadd_some (S : Nat → Prop) (B : Nat) (A : Tab) (hA : A.Good) (T : Nat → Tk) (w : World) (v : Value) (h : PKTab S B w A T v) (p : Int) (q : Option Addr) (n c : Nat) (f : Nat → Jb) (k : Ac) (y : Int) (i : Nat) (hf : A.free = some i) :
    Calls Tryz.prog 47 #[v, tV p (.slice q n c) k] w (ActK S B w (A.addAt i y) (upd T i ⟨p, .slice q n c, n, f, k⟩) v (.tuple #[.int .i64 (A.hd i), .nilIface])) := by
  obtain ⟨b, g1, c1, g2, c2, g3, c3, rfl, h, HS⟩ := h
  obtain ⟨kg, ko, kn, kd, kc, kt⟩ := k
  have HS2 := Lib.hid HS
  clear HS
  obtain ⟨hi, hti, hgi⟩ := fr_iff hf
  have HFR := Lib.hid (show ∀ j, j < i → A.fr j = false from fun j hj => by
    have hf' := hf
    unfold Tab.free firstIn at hf'
    rw [List.find?_eq_some_iff_getElem] at hf'
    obtain ⟨_, n, hn, e, hall⟩ := hf'
    simp at e
    subst e
    have := hall j hj
    simpa using this)
  have hlt := hA.lt
  have n4 := hA.n4
  have hp : okP A.kind i (A.g i) := ⟨hA.k1, hA.k3, by omega, by omega, (hA.g1 i hi).1, hgi⟩
  have HM := Lib.hid (fun w => make_ok A.kind i (A.g i) w hp)
  have hh : A.hd i = mkH A.kind i (A.g i) := rfl
  rw [hh]
  have HTI := Lib.hid hti
  have HGI := Lib.hid hgi
  obtain ⟨WA, hWA⟩ : ∃ WA, WA = w.alloc (.cells #[.int .i64 p, .slice q n c, .int .i64 kg, .int .i64 ko, .int .i64 kn, .int .i64 kd, .int .i64 kc, .int .i64 kt] KT) := ⟨_, rfl⟩
  have HB := Lib.hid (show Below w.heap.size w WA from by rw [hWA]; exact (Below.refl _ _).alloc (Nat.le_refl _) _)
  have HT := Lib.hid (show HasT WA w.heap.size p (.slice q n c) ⟨kg, ko, kn, kd, kc, kt⟩ from by rw [hWA]; exact hasT_new w p (.slice q n c) ⟨kg, ko, kn, kd, kc, kt⟩)
  have HP := Lib.hid (h.below HB.out)
  have HW := Lib.hid hWA
  have f0 := HP.out.f0
  have f1 := HP.out.f1
  have f2 := HP.out.f2
  have f3 := HP.out.f3
  rw [hlt] at f2
  have HLT := Lib.hid hlt
  have n23 := h.own.n23
  have n32 : ¬ g3 = g2 := fun e => n23 e.symm
  have m2 := h.n2
  have m3 := h.n3
  obtain ⟨k1, k2, k3, k4⟩ := h.lts
  have l4 : ¬ w.heap.size = g2 := by omega
  have l5 : ¬ w.heap.size = g3 := by omega
  have l6 : ¬ g2 = w.heap.size := by omega
  have l7 : ¬ g3 = w.heap.size := by omega
  clear hf h hA hlt hp hh hti hgi hWA k1 k2 k3 k4
  go_enter Tryz.func47, Tryz.ntmps47
  go_upto_region 1 with fail
  rw [← HW.out]
  go_wp2_with fail
  go_loop [6, 7, 13] (fun _ _ i' => ∃ k : Nat, k ≤ i ∧ i' = .int .i64 k) (fun _ _ i => A.gens.length - (intOf i).toNat)
  case atStart => exact ⟨0, Nat.zero_le _, rfl⟩
  case round =>
    obtain ⟨k, hk, rfl⟩ := hrel
    have hlt : k < A.gens.length := by omega
    have r1 := HP.out.own.g.cellAt k (by omega)
    rw [ints_at hlt] at r1
    have r3 := HP.out.own.t.cellAt k (by have := HLT.out; omega)
    rw [bools_at (by have := HLT.out; omega)] at r3
    have z0 : (0 : Int) ≤ (k : Int) := by omega
    have z1 : (k : Int) < (A.gens.length : Int) := by omega
    by_cases hki : k = i
    · subst hki
      rw [show A.taken.getD k false = false from HTI.out] at r3
      rw [show A.gens.getD k 0 = A.g k from rfl] at r1
      have hg := HGI.out
      obtain ⟨x0, x1, x2, x3, x4, x5, x6, x7⟩ := HT.out.cells
      obtain ⟨q0, q1, q2, q3, q4, q5, q6, q7, fr⟩ := HP.out.cells hlt
      generalize (T k).p = y0 at *
      generalize (T k).s = y1 at *
      generalize (T k).k.g = y2 at *
      generalize (T k).k.o = y3 at *
      generalize (T k).k.n = y4 at *
      generalize (T k).k.d = y5 at *
      generalize (T k).k.c = y6 at *
      generalize (T k).k.t = y7 at *
      have r4 := HP.out.own.t.frozenAt k
      go_upto_region 5 with fail
      go_cut [] (fun wx => Hid (PK B wx (A.addAt k y) (upd T k ⟨p, .slice q n c, n, f, ⟨kg, ko, kn, kd, kc, kt⟩⟩) b g1 c1 g2 c2 g3 c3) ∧ Hid (Keeps S w wx))
      case first =>
        go_region
        go_wp2_with fail
        go_meet
        exact ⟨Lib.hid ((HP.out.taken k true).task k ⟨p, .slice q n c, n, f, ⟨kg, ko, kn, kd, kc, kt⟩⟩ (A.list.set k y)).drew, Lib.hid (far_set8 ((Keeps.of_below HB.out).setS _ _ (by rw [HS2.out]; simp)) g3 k ⟨p, .slice q n c, n, f, ⟨kg, ko, kn, kd, kc, kt⟩⟩ (by rw [HS2.out]; simp)).drew⟩
      case rest =>
        obtain ⟨K1, K2⟩ := hcut
        have f0' := K1.out.f0
        have ek : (A.addAt k y).kind = A.kind := rfl
        rw [ek] at f0'
        clear r1 r3 r4 f0 f1 f2 f3 q0 q1 q2 q3 q4 q5 q6 q7 fr x0 x1 x2 x3 x4 x5 x6 x7 ek
        go_wp2_with fail
        refine (HM.out _).mono ?_
        rintro e w1 ⟨rfl, rfl⟩
        go_wp2_with fail
        go_ret2
        exact ⟨rfl, ⟨b, g1, c1, g2, c2, g3, c3, rfl, K1.out, HS2.out⟩, K2.out⟩
    · have hf := HFR.out k (by omega)
      unfold Tab.fr Tab.t Tab.g at hf
      generalize A.gens.getD k 0 = g at *
      generalize A.taken.getD k false = t at *
      cases t with
      | true =>
        clear hf
        go_wp2_with fail
        go_round
        case rel => exact ⟨k + 1, by omega, by go_num⟩
        case measure => simp [intOf]; omega
      | false =>
        have h2 : 1023 < g := by simp at hf; omega
        clear hf
        go_wp2_with fail
        go_round
        case rel => exact ⟨k + 1, by omega, by go_num⟩
        case measure => simp [intOf]; omega
end Go.Proofs.YtedgchafligndaaGreat
/- The program's New of a table of tasks: refused where the document refuses, else free slots of generation 1; no condition. -/
namespace Go.Proofs.YtedgchafligndaaGreat
open Go.RowKit Tsk

/-- What make lays. -/
def tkZ (n : Nat) : Array Value := (tkL (fun _ => tk0) n).toArray
theorem tkZ_made (n : Nat) : madeCells (Value.agg #[.int .i64 0, .slice none 0 0, .int .i64 0, .int .i64 0, .int .i64 0, .int .i64 0, .int .i64 0, .int .i64 0]).cells (n * 8) = tkZ n := by
  apply Array.toList_inj.1
  unfold tkZ
  apply List.ext_getElem?
  intro m
  by_cases hm : m < n * 8
  · have e : m = m / 8 * 8 + m % 8 := by omega
    conv => rhs; rw [e]
    simp only []
    rw [tkL_at _ (by omega) _ (by omega)]
    have hr : m % 8 = 0 ∨ m % 8 = 1 ∨ m % 8 = 2 ∨ m % 8 = 3 ∨ m % 8 = 4 ∨ m % 8 = 5 ∨ m % 8 = 6 ∨ m % 8 = 7 := by omega
    have hc : (madeCells (Value.agg #[.int .i64 0, .slice none 0 0, .int .i64 0, .int .i64 0, .int .i64 0, .int .i64 0, .int .i64 0, .int .i64 0]).cells (n * 8)).toList[m]? = some ((Value.agg #[.int .i64 0, .slice none 0 0, .int .i64 0, .int .i64 0, .int .i64 0, .int .i64 0, .int .i64 0, .int .i64 0]).cells[m % 8]!) := by
      simp [madeCells, hm, Value.cells]
    rw [hc]
    rcases hr with h | h | h | h | h | h | h | h <;> rw [h] <;> rfl
  · rw [List.getElem?_eq_none (by simp [size_madeCells]; omega), List.getElem?_eq_none (by simp [tkL_len]; omega)]
theorem make_tasks (n : Nat) (h : n * 80 ≤ 281474976710656) (w : World) : (Instr.makeSlice 24 (.int .i64 (n : Int)) (.int .i64 (n : Int))).run Tryz.prog w = .ok (.slice (some ⟨w.heap.size, 0, none⟩) n n) (w.alloc (.cells (tkZ n) KT)) := by
  obtain ⟨i, hi, hzz⟩ := Option.map_eq_some_iff.1 Tryz.infTk
  simp only [Prod.mk.injEq] at hzz
  obtain ⟨hz, hs, hb⟩ := hzz
  have hr := run_make (P := Tryz.prog) w 24 KT i _ Tryz.underlying24 hi hz .i64 .i64 n n (by omega) (Int.le_refl _) (by rw [hb]; omega) (by omega)
  rw [hs, Int.toNat_natCast, tkZ_made] at hr
  exact hr
theorem own_tkZ {B : Nat} (W : World) (n s : Nat) (hs : s = W.heap.size) (hb : B ≤ s) (hn : n ≤ 4096) : (W.alloc (.cells (tkZ n) KT)).ownsRow B KT 8 (.slice (some ⟨s, 0, none⟩) n n) n (tkL (fun _ => tk0) n) := by
  subst hs
  have h := World.ownsRow_lit (base := B) (e := KT) (size := 8) W (tkZ n) n hb (by unfold maxLen; omega) (by unfold tkZ; simp [tkL_len])
  exact h
theorem own_drew8 {B e n z : Nat} {w : World} {v : Value} {xs : List Value} (h : w.ownsRow B e z v n xs) : w.drew.ownsRow B e z v n xs := h

set_option maxHeartbeats 1000000 in
set_option maxRecDepth 100000 in
theorem knew_no (kind many : Int) (w : World) (h : ¬ (1 ≤ kind ∧ kind ≤ 3 ∧ 1 ≤ many ∧ many ≤ 4096)) :
    Calls Tryz.prog 44 #[.int .i64 kind, .int .i64 many] w fun e w' => e = .returned (.tuple #[.pointer none, .iface 65 (.int .i64 1)]) ∧ w = w' := by
  by_cases h1 : many < 1
  · clear h
    go_enter Tryz.func44, Tryz.ntmps44
    go_wp2_with fail
    go_ret2
    exact ⟨rfl, rfl⟩
  · by_cases h2 : 4096 < many
    · clear h
      go_enter Tryz.func44, Tryz.ntmps44
      go_wp2_with fail
      go_ret2
      exact ⟨rfl, rfl⟩
    · have HM := Lib.hid (fun w => make_no kind 0 1 w (fun k => by unfold okP at k; omega))
      have h3 : 1 ≤ many := by omega
      have h4 : many ≤ 4096 := by omega
      clear h
      go_enter Tryz.func44, Tryz.ntmps44
      go_wp2_with fail
      refine (HM.out _).mono ?_
      rintro e w1 ⟨rfl, rfl⟩
      go_wp2_with fail
      go_ret2
      exact ⟨rfl, rfl⟩

theorem old1 (w : World) (T : TypeId) (b : Nat) (hb : b = w.heap.size) : (w.alloc (.cells #[.int .i64 1] T)).cell? ⟨b, 0, none⟩ = some (.int .i64 1) := by subst hb; simp
theorem old2 (w : World) (T : TypeId) (o : Obj) (b : Nat) (hb : b = w.heap.size) : ((w.alloc (.cells #[.int .i64 1] T)).alloc o).cell? ⟨b, 0, none⟩ = some (.int .i64 1) := by
  rw [World.cell?_alloc_lt _ _ ⟨b, 0, none⟩ (by simp [hb])]; exact old1 w T b hb
theorem old3 (w : World) (T : TypeId) (o o' : Obj) (b : Nat) (hb : b = w.heap.size) : (((w.alloc (.cells #[.int .i64 1] T)).alloc o).alloc o').cell? ⟨b, 0, none⟩ = some (.int .i64 1) := by
  rw [World.cell?_alloc_lt _ _ ⟨b, 0, none⟩ (by simp [hb]; omega)]; exact old2 w T o b hb
theorem pk_new {B : Nat} (W : World) (kind : Int) (n b r s2 s3 T : Nat) (hb : b = W.heap.size) (hB : B ≤ b) (h1 : W.ownsRow B 3 1 (.slice (some ⟨r, 0, none⟩) n n) n (ints (List.replicate n 1))) (h2 : W.ownsRow B 4 1 (.slice (some ⟨s2, 0, none⟩) n n) n (List.replicate n (.bool false)))
    (h3 : W.ownsRow B KT 8 (.slice (some ⟨s3, 0, none⟩) n n) n (tkL (fun _ => tk0) n)) (n12 : r ≠ s2) (n13 : r ≠ s3) (n23 : s2 ≠ s3) :
    PK B (W.alloc (.cells #[.int .i64 kind, .slice (some ⟨r, 0, none⟩) n n, .slice (some ⟨s2, 0, none⟩) n n, .slice (some ⟨s3, 0, none⟩) n n] T)) (Tab.new kind n) (fun _ => tk0) b r n s2 n s3 n := by
  subst hb
  have l1 := (h1.lt r rfl).2
  have l2 := (h2.lt s2 rfl).2
  have l3 := (h3.lt s3 rfl).2
  have hc : ∀ (cs : Array Value) j, (W.alloc (.cells cs T)).cell? ⟨W.heap.size, j, none⟩ = cs[j]? := fun cs j => cell_of_row _ _ j cs T (0, 0) (heap_alloc_new W _)
  have e1 : (Tab.new kind n).gens.length = n := by simp [Tab.new]
  have e2 : (Tab.new kind n).taken.length = n := by simp [Tab.new]
  refine ⟨hc _ 0, by rw [e1]; exact hc _ 1, by rw [e2]; exact hc _ 2, by rw [e1]; exact hc _ 3, ⟨?_, ?_, ?_, n12, n13, n23⟩, hB, by omega, by omega, by omega⟩
  · rw [e1]; exact h1.alloc _
  · rw [e2]
    have : bools (Tab.new kind n).taken = List.replicate n (.bool false) := by simp [bools, Tab.new]
    rw [this]; exact h2.alloc _
  · rw [e1]; exact h3.alloc _

set_option maxHeartbeats 4000000 in
set_option maxRecDepth 100000 in
theorem knew_ok (kind : Int) (n : Nat) (w : World) (k1 : 1 ≤ kind) (k3 : kind ≤ 3) (h1 : 1 ≤ n) (h2 : n ≤ 4096) :
    Calls Tryz.prog 44 #[.int .i64 kind, .int .i64 n] w fun e w' => ∃ S v, e = .returned (.tuple #[v, .nilIface]) ∧ PKTab S w.heap.size w' (Tab.new kind n) (fun _ => tk0) v ∧ Below w.heap.size w w' := by
  have HM := Lib.hid (fun w => make_ok kind 0 1 w ⟨k1, k3, by omega, by omega, by omega, by omega⟩)
  have hmk1 := fun w => run_make_row' (P := Tryz.prog) 22 3 (.int .i64 0) 8 Tryz.underlying22 Tryz.info3 rfl .i64 .i64 n (by omega) (by omega) w
  have hmk2 := fun w => run_make_row' (P := Tryz.prog) 23 4 (.bool false) 1 Tryz.underlying23 Tryz.info4 rfl .i64 .i64 n (by omega) (by omega) w
  have hmk3 := fun w => make_tasks n (by omega) w
  have HR := Lib.hid (fun w g c hg => repeat_ones w g c hg n h1 h2)
  have z1 : (1 : Int) ≤ (n : Int) := by omega
  have z2 : (n : Int) ≤ 4096 := by omega
  go_enter Tryz.func44, Tryz.ntmps44
  go_wp2_with fail
  refine (HM.out _).mono ?_
  rintro e w1 ⟨rfl, rfl⟩
  go_wp2_with fail
  go_cut [4, 5] (fun s4 s5 wx => ∃ b g1 c1 g2 c2 g3 c3, s4 = .pointer (some ⟨b, 0, none⟩) ∧ s5 = .nilIface ∧ Hid (PK w.heap.size wx (Tab.new kind n) (fun _ => tk0) b g1 c1 g2 c2 g3 c3) ∧ Below w.heap.size w wx)
  case first =>
    go_region_held3 (fun _ => True) (trivial) (first | (go_at_call 74; refine (HR.out _ _ _ (by first | (simp; done) | (simp only [World.cell?_drew]; first | (exact old1 _ _ _ (by first | rfl | (simp; done))) | (exact old2 _ _ _ _ (by first | rfl | (simp; done))) | (exact old3 _ _ _ _ _ (by first | rfl | (simp; done)))))).mono ?_; rintro e w1 ⟨r, rfl, hr, hb⟩))
    all_goals
      go_wp2_with fail
      go_meet
      have hr' := own_base (B' := w.heap.size) hr (by first | (simp; done) | (simp; omega))
      have hl := hr.lt r rfl
      have hz := hb.size
      simp at hl hz
    all_goals
      refine ⟨_, _, _, _, _, _, _, rfl, rfl, Lib.hid (pk_new _ kind n _ _ _ _ _ (by first | rfl | (simp; done)) (by omega) ?_ ?_ ?_ (by omega) (by omega) (by omega)), ?_⟩
      · repeat (first | exact hr' | refine World.ownsRow.alloc ?_ _)
      · repeat (first | exact own_made _ _ _ _ _ (by simp) (by omega) h2 | refine World.ownsRow.alloc ?_ _ | refine own_below ?_ hb | refine own_drew ?_)
      · repeat (first | exact own_tkZ _ _ _ (by simp) (by omega) h2 | refine World.ownsRow.alloc ?_ _ | refine own_under ?_ hb | refine own_drew8 ?_)
      · repeat (first | exact Below.refl _ _ | refine below_alloc ?_ _ | refine bnext ?_ hb | refine below_drew ?_)
  case rest =>
    obtain ⟨b, g1, c1, g2, c2, g3, c3, rfl, rfl, K, hb⟩ := hcut
    go_wp2_with fail
    go_ret2
    exact ⟨_, _, rfl, ⟨b, g1, c1, g2, c2, g3, c3, rfl, K.out, rfl⟩, hb⟩
end Go.Proofs.YtedgchafligndaaGreat
/- The document's own All of a table; no condition but those that each row names. -/
namespace Go.Proofs.YtedgchafligndaaGreat
open Go.RowKit

/-- What All answers. -/
def AllPost (S : Nat → Prop) (w : World) (A : Tab) (e : Ending) (w' : World) : Prop := ∃ v, e = .returned v ∧ Lst S w' v (ints A.all) ∧ Below w.heap.size w w'

end Go.Proofs.YtedgchafligndaaGreat
/- The library's slices.Clone of numbers and of bools: a row of its own with the same cells; asked: a slice with cells, of at most 4,096. -/
namespace Go.Proofs.YtedgchafligndaaGreat
open Go.RowKit

def ClonePost (w : World) (n : Nat) (E : TypeId) (xs : List Value) (e : Ending) (w' : World) : Prop :=
  ∃ g cap, e = .returned (.slice (some ⟨g, 0, none⟩) n cap) ∧ w'.ownsRow w.heap.size E 1 (.slice (some ⟨g, 0, none⟩) n cap) n xs ∧ Below w.heap.size w w'

set_option maxHeartbeats 1000000 in
set_option maxRecDepth 100000 in
theorem clone_ints (w : World) (b1 o1 n cp : Nat) (l : List Int) (hn : l.length = n) (h1 : 1 ≤ n) (h2 : n ≤ 4096) (hs : ∀ j u, (ints l)[j]? = some u → w.cell? ⟨b1, o1 + j, none⟩ = some u) :
    Calls Tryz.prog 82 #[.slice (some ⟨b1, o1, none⟩) n cp] w (ClonePost w n 3 (ints l)) := by
  obtain ⟨i0, hi, hz0, hz1, hz2⟩ := info_parts Tryz.info3
  have e1 := ints_len l
  rw [hn] at e1
  have k1 : b1 < w.heap.size := cell_lt (hs 0 _ (ints_at (by omega)))
  have HS := Lib.hid hs
  have E1 := Lib.hid e1
  clear hs e1 hn
  have hnil := fun w => Lib.run_eql_slice_nil (P := Tryz.prog) w 22 _ (some ⟨b1, o1, none⟩) n cp 0 0 Tryz.underlying22
  go_enter Tryz.func82, Tryz.ntmps82
  go_wp2_with (at_builtin; refine wpList_append_lies _ rfl _ _ 22 rfl w.heap.size 3 i0 (.int .i64 0) 1 8 Tryz.underlying22 hi hz0 hz1 hz2 rfl (by decide) (.slice (some ⟨w.heap.size, 0, none⟩) 0 0) 0 [] rfl (World.ownsRow_made _ _ 0 (Nat.le_refl _) (by simp [maxLen]) rfl) ⟨b1, o1, none⟩ n cp (ints l) rfl (by rw [E1.out, Nat.mul_one]) ?a1 ints_one h1 (by unfold maxLen; omega) (by omega) ?a2 (w.heap.size + 1) (by simp) ?_)
  case a1 =>
    intro j u hu
    rw [addr_plus]
    exact (World.cell?_alloc_lt _ _ ⟨b1, o1 + j, none⟩ k1).trans (HS.out j u hu)
  case a2 => simp
  intro g1 c1 w1 hown1 hgrow1 hat1 hlt1
  have hO := Lib.hid hown1
  have hB := Lib.hid hgrow1
  clear hown1 hgrow1 hat1
  go_wp2_with fail
  go_ret
  exact ⟨g1, c1, by simp, by simpa using hO.out, ((Below.refl w.heap.size w).alloc (Nat.le_refl _) _).grown hB.out (by simp) (fun k e => by simp [Value.ownBlock] at e; omega)⟩

set_option maxHeartbeats 1000000 in
set_option maxRecDepth 100000 in
theorem clone_bools (w : World) (b1 o1 n cp : Nat) (l : List Bool) (hn : l.length = n) (h1 : 1 ≤ n) (h2 : n ≤ 4096) (hs : ∀ j u, (bools l)[j]? = some u → w.cell? ⟨b1, o1 + j, none⟩ = some u) :
    Calls Tryz.prog 83 #[.slice (some ⟨b1, o1, none⟩) n cp] w (ClonePost w n 4 (bools l)) := by
  obtain ⟨i0, hi, hz0, hz1, hz2⟩ := info_parts Tryz.info4
  have e1 := bools_len l
  rw [hn] at e1
  have k1 : b1 < w.heap.size := cell_lt (hs 0 _ (bools_at (by omega)))
  have HS := Lib.hid hs
  have E1 := Lib.hid e1
  clear hs e1 hn
  have hnil := fun w => Lib.run_eql_slice_nil (P := Tryz.prog) w 23 _ (some ⟨b1, o1, none⟩) n cp 0 0 Tryz.underlying23
  go_enter Tryz.func83, Tryz.ntmps83
  go_wp2_with (at_builtin; refine wpList_append_lies _ rfl _ _ 23 rfl w.heap.size 4 i0 (.bool false) 1 1 Tryz.underlying23 hi hz0 hz1 hz2 rfl (by decide) (.slice (some ⟨w.heap.size, 0, none⟩) 0 0) 0 [] rfl (World.ownsRow_made _ _ 0 (Nat.le_refl _) (by simp [maxLen]) rfl) ⟨b1, o1, none⟩ n cp (bools l) rfl (by rw [E1.out, Nat.mul_one]) ?a1 bools_one h1 (by unfold maxLen; omega) (by omega) ?a2 (w.heap.size + 1) (by simp) ?_)
  case a1 =>
    intro j u hu
    rw [addr_plus]
    exact (World.cell?_alloc_lt _ _ ⟨b1, o1 + j, none⟩ k1).trans (HS.out j u hu)
  case a2 => simp
  intro g1 c1 w1 hown1 hgrow1 hat1 hlt1
  have hO := Lib.hid hown1
  have hB := Lib.hid hgrow1
  clear hown1 hgrow1 hat1
  go_wp2_with fail
  go_ret
  exact ⟨g1, c1, by simp, by simpa using hO.out, ((Below.refl w.heap.size w).alloc (Nat.le_refl _) _).grown hB.out (by simp) (fun k e => by simp [Value.ownBlock] at e; omega)⟩
end Go.Proofs.YtedgchafligndaaGreat
/- The program's All of a table; no condition but those that each row names. -/
namespace Go.Proofs.YtedgchafligndaaGreat
open Go.RowKit Tsk


set_option maxHeartbeats 2000000 in
set_option maxRecDepth 100000 in
theorem kall (S R : Nat → Prop) (B : Nat) (A : Tab) (hA : A.Good) (T : Nat → Tk) (w : World) (v : Value) (h : PKTab R B w A T v) (hS : ∀ x, S x → x < w.heap.size) :
    Calls Tryz.prog 21 #[v] w (AllPost S w A) := by
  obtain ⟨b, g1, c1, g2, c2, g3, c3, rfl, h, hTx⟩ := h
  clear hTx
  obtain ⟨i0, hi, hz0, hz1, hz2⟩ := info_parts Tryz.info60
  have n4 := hA.n4
  have hlt := hA.lt
  have f2 := h.f2
  rw [hlt] at f2
  have HP := Lib.hid (fun w1 (hb : Below w.heap.size w w1) => h.below hb)
  have HA := Lib.hid hA
  have HS := Lib.hid hS
  have HLT := Lib.hid hlt
  clear h hlt hA hS
  go_enter Tryz.func21, Tryz.ntmps21
  go_wp2_with fail
  go_loopw [3, 4, 5, 11] (fun x _ _ i wr => ∃ k : Nat, k ≤ A.gens.length ∧ i = .int .i64 k ∧ Hid (wr.ownsRow w.heap.size 60 1 x (allTo A k).length (ints (allTo A k))) ∧ Below w.heap.size w wr) (fun _ _ _ i _ => A.gens.length - (intOf i).toNat)
  case atStart => exact ⟨0, Nat.zero_le _, rfl, Lib.hid (World.ownsRow_nil _ _ _ _), Below.refl _ _⟩
  case round =>
    obtain ⟨k, hk, rfl, HX, hb⟩ := hrel
    by_cases hlt : k < A.gens.length
    · have q := (HP.out wr hb).own.t.cellAt k (by have := HLT.out; omega)
      rw [bools_at (by have := HLT.out; omega)] at q
      have z0 : (0 : Int) ≤ (k : Int) := by omega
      have z1 : (k : Int) < (A.gens.length : Int) := by omega
      cases ht : A.taken.getD k false with
      | true =>
        rw [ht] at q
        have HC := Lib.hid (khandle B A T HA.out wr b g1 c1 g2 c2 g3 c3 (HP.out wr hb) k hlt (HA.out.gt k hlt ht))
        have HE := Lib.hid (allTo_yes ht)
        have hn4 := allTo_len A k
        have hsz := hb.size
        clear ht
        go_wp2_with fail
        refine HC.out.mono ?_
        rintro e w1 ⟨rfl, nd, rfl⟩
        have hX1 := own_drewN HX.out nd
        have hb1 : Below w.heap.size w (wr.drewN nd) := below_drewN hb nd
        have hsz1 : w.heap.size ≤ (wr.drewN nd).heap.size := hb1.size
        have HX1 := Lib.hid hX1
        clear hX1
        generalize wr.drewN nd = W at *
        go_wp2_with (at_builtin; refine wpList_append_own _ rfl _ _ 47 rfl w.heap.size 60 i0 (.int .i64 0) 1 8 Tryz.underlying47 hi hz0 hz1 hz2 rfl (by decide) _ _ _ rfl (HX1.out.alloc _) ⟨W.heap.size, 0, none⟩ 1 1 [.int .i64 (A.hd k)] rfl rfl ?a1 ?a2 ?a3 ?a4 ?a5 ?_)
        case a1 => exact news_one W _ _
        case a2 => intro u hu; simp at hu; subst hu; rfl
        case a3 => unfold maxLen; omega
        case a4 => omega
        case a5 => simp; omega
        intro v' w2 hown2 hgrow2 _
        have HG := Lib.hid hgrow2
        have HO := Lib.hid (show w2.ownsRow w.heap.size 60 1 v' (allTo A (k + 1)).length (ints (allTo A (k + 1))) by
          rw [HE.out, ← ints_snoc, List.length_append]; exact hown2)
        have hX := HX1.out
        have HB2 : Below w.heap.size w w2 := (below_alloc hb1 _).grown hgrow2 (by simp; omega) (fun g e => (hX.lt g e).1)
        clear hown2 hgrow2 hX
        go_wp2_with fail
        go_roundw
        case rel => exact ⟨k + 1, by omega, by go_num, HO, HB2⟩
        case measure => simp [intOf]; omega
      | false =>
        rw [ht] at q
        have HE := Lib.hid (allTo_no ht)
        clear ht
        go_wp2_with fail
        go_roundw
        case rel => exact ⟨k + 1, by omega, by go_num, by rw [HE.out]; exact HX, hb⟩
        case measure => simp [intOf]; omega
    · have hk' : k = A.gens.length := by omega
      have HE := Lib.hid (show allTo A k = A.all by rw [hk']; rfl)
      have hn4 := allTo_len A k
      clear hk'
      go_wp2_with fail
      go_ret
      have ho := HX.out
      rw [HE.out] at ho hn4
      exact ⟨_, rfl, Lst.of_own ho (ints_len _) (by omega) (fun x h _ c => by have := HS.out x c; omega), hb⟩
/-- What Slots answers. -/
def SlotsPost (S : Nat → Prop) (w : World) (A : Tab) (e : Ending) (w' : World) : Prop :=
  ∃ gs ts, e = .returned (.tuple #[gs, ts]) ∧ Lst S w' gs (ints A.gens) ∧ Lst S w' ts (bools A.taken) ∧ Below w.heap.size w w'
theorem slotsPost_mk {S : Nat → Prop} {w w' : World} {A : Tab} (hA : A.Good) (hS : ∀ x, S x → x < w.heap.size) {B g1 c1 g2 c2 : Nat} (hB : w.heap.size ≤ B)
    (h1 : w'.ownsRow B 3 1 (.slice (some ⟨g1, 0, none⟩) A.gens.length c1) A.gens.length (ints A.gens)) (h2 : w'.ownsRow B 4 1 (.slice (some ⟨g2, 0, none⟩) A.gens.length c2) A.gens.length (bools A.taken)) (hb : Below w.heap.size w w') :
    SlotsPost S w A (.returned (.tuple #[.slice (some ⟨g1, 0, none⟩) A.gens.length c1, .slice (some ⟨g2, 0, none⟩) A.gens.length c2])) w' := by
  have n4 := hA.n4
  exact ⟨_, _, rfl, Lst.of_own h1 (ints_len _) (by omega) (fun x h _ k => by have := hS x k; omega), Lst.of_own h2 (by rw [bools_len, hA.lt]) (by omega) (fun x h _ k => by have := hS x k; omega), hb⟩

set_option maxHeartbeats 2000000 in
set_option maxRecDepth 100000 in
theorem kslots (S R : Nat → Prop) (B : Nat) (A : Tab) (hA : A.Good) (T : Nat → Tk) (w : World) (v : Value) (h : PKTab R B w A T v) (hS : ∀ x, S x → x < w.heap.size) :
    Calls Tryz.prog 63 #[v] w (SlotsPost S w A) := by
  obtain ⟨b, g1, c1, g2, c2, g3, c3, rfl, h, hTx⟩ := h
  clear hTx
  have n1 := hA.n1
  have n4 := hA.n4
  have hlt := hA.lt
  have HP := Lib.hid (fun w1 (hb : Below w.heap.size w w1) => h.below hb)
  have HK := Lib.hid (show ∀ W, Below w.heap.size w W → (W.cell? ⟨b, 1, none⟩ = some (.slice (some ⟨g1, 0, none⟩) A.gens.length c1) ∧ W.cell? ⟨b, 2, none⟩ = some (.slice (some ⟨g2, 0, none⟩) A.gens.length c2) ∧ Below w.heap.size w W) from
    fun W hb => ⟨(HP.out W hb).f1, by rw [← hlt]; exact (HP.out W hb).f2, hb⟩)
  have HC1 := Lib.hid (fun W (hb : Below w.heap.size w W) => clone_ints W g1 0 A.gens.length c1 A.gens rfl (by omega) (by omega) (own_cells (HP.out W hb).own.g))
  have HC2 := Lib.hid (fun W (hb : Below w.heap.size w W) => clone_bools W g2 0 A.gens.length c2 A.taken hlt (by omega) (by omega) (own_cells (HP.out W hb).own.t))
  have HA := Lib.hid hA
  have HS := Lib.hid hS
  clear h hlt hA hS
  go_enter Tryz.func63, Tryz.ntmps63
  go_wp2_with fail
  go_region_held3 (fun w' => w'.cell? ⟨b, 1, none⟩ = some (.slice (some ⟨g1, 0, none⟩) A.gens.length c1) ∧ w'.cell? ⟨b, 2, none⟩ = some (.slice (some ⟨g2, 0, none⟩) A.gens.length c2) ∧ Below w.heap.size w w')
    (first | exact HK.out _ below_drewOne | exact HK.out _ (Below.refl _ _) | (go_split_ands; refine HK.out _ (bnext ?_ hb); first | assumption | exact below_drewOne))
    (first
      | (go_at_call 82; refine (HC1.out _ ?_).mono ?_; (go_split_ands; assumption); rintro e w1 ⟨p1, d1, rfl, ho1, hb⟩; have hb1 := hb)
      | (go_at_call 83; refine (HC2.out _ ?_).mono ?_; (go_split_ands; assumption); rintro e w2 ⟨p2, d2, rfl, ho2, hb⟩; have hb2 := hb))
  all_goals
    go_wp2_with fail
    go_ret2
  have k1 := hb1.size
  have k2 : Below w.heap.size w w1 := by first | exact hb1 | exact below_drewOne.trans hb1
  exact slotsPost_mk HA.out HS.out (B := w.heap.size) (Nat.le_refl _) (own_base (own_below ho1 hb2) (by first | exact Nat.le_refl _ | (simp; done))) (own_base ho2 k2.size) (bnext k2 hb2)

end Go.Proofs.YtedgchafligndaaGreat
