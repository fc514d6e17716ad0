/- A list of pairs in its order, as the document's calendar keeps it; nothing of the program is walked; no condition but those that each row names. -/
import Derived.Test.YtknhjbfhkfngeaaNKeep
namespace Go.Proofs.Ytknhjbfhkfngeaa
open Go.RowKit
namespace Cal
/-- A number and its time. -/
abbrev Pr := Int × Int
/-- Is x ahead of y? -/
def Lt2 (x y : Pr) : Prop := x.2 < y.2 ∨ x.2 = y.2 ∧ x.1 < y.1
instance (x y : Pr) : Decidable (Lt2 x y) := by unfold Lt2; infer_instance
theorem lt_trans {x y z : Pr} (h1 : Lt2 x y) (h2 : Lt2 y z) : Lt2 x z := by unfold Lt2 at *; omega
theorem lt_irrefl {x : Pr} (h : Lt2 x x) : False := by unfold Lt2 at h; omega
theorem lt_neg {x y : Pr} (h : ¬ Lt2 x y) : x = y ∨ Lt2 y x := by
  obtain ⟨a, b⟩ := x
  obtain ⟨c, d⟩ := y
  unfold Lt2 at *
  simp only at *
  by_cases e : a = c ∧ b = d
  · exact .inl (by rw [e.1, e.2])
  · right; omega
/-- Where a number stands first. -/
def findI (id : Int) : List Pr → Option Nat
  | [] => none
  | x :: r => if x.1 = id then some 0 else (findI id r).map (· + 1)
theorem findI_some {id : Int} : ∀ {L : List Pr} {i : Nat}, findI id L = some i → ∃ h : i < L.length, L[i].1 = id ∧ ∀ j (h : j < L.length), j < i → L[j].1 ≠ id
  | [], i, h => by cases h
  | x :: r, i, h => by
    simp only [findI] at h
    split at h
    · rename_i e
      cases h
      exact ⟨by simp, e, fun j _ hj => by omega⟩
    · rename_i e
      cases hr : findI id r with
      | none => rw [hr] at h; cases h
      | some k =>
        rw [hr] at h
        have h0 : k + 1 = i := Option.some.inj h
        subst h0
        obtain ⟨h1, h2, h3⟩ := findI_some hr
        refine ⟨by simp; omega, by simpa using h2, fun j hj hjk => ?_⟩
        cases j with
        | zero => exact e
        | succ j => exact h3 j (by simpa using hj) (by omega)
theorem findI_none {id : Int} : ∀ {L : List Pr}, findI id L = none → ∀ x ∈ L, x.1 ≠ id
  | [], _, x, hx => by cases hx
  | y :: r, h, x, hx => by
    simp only [findI] at h
    split at h
    · cases h
    · rename_i e
      rcases List.mem_cons.1 hx with rfl | hx
      · exact e
      · exact findI_none (by cases hr : findI id r with | none => rfl | some k => rw [hr] at h; cases h) x hx
/-- A number taken out. -/
def remL (id : Int) (L : List Pr) : List Pr := match findI id L with
  | none => L
  | some i => L.take i ++ L.drop (i + 1)
/-- How many are ahead of it. -/
def goes (x : Pr) : List Pr → Nat
  | [] => 0
  | y :: r => if Lt2 y x then goes x r + 1 else 0
theorem goes_le {x : Pr} : ∀ L, goes x L ≤ L.length
  | [] => Nat.le_refl _
  | y :: r => by
    have := goes_le (x := x) r
    simp only [goes, List.length_cons]
    split <;> omega
theorem goes_ahead {x : Pr} : ∀ {L : List Pr} {j : Nat}, j < goes x L → ∀ h : j < L.length, Lt2 L[j] x
  | [], j, hj, h => by simp at h
  | y :: r, j, hj, h => by
    simp only [goes] at hj
    split at hj
    · rename_i ha
      cases j with
      | zero => exact ha
      | succ j => exact goes_ahead (L := r) (by omega) (by simpa using h)
    · omega
theorem goes_stop {x : Pr} : ∀ {L : List Pr} (h : goes x L < L.length), ¬ Lt2 L[goes x L] x
  | [], h => by simp at h
  | y :: r, h => by
    by_cases ha : Lt2 y x
    · have e : goes x (y :: r) = goes x r + 1 := if_pos ha
      have h2 : goes x r < r.length := by rw [e] at h; simpa using h
      have := goes_stop (L := r) h2
      simp only [e, List.getElem_cons_succ]
      exact this
    · have e : goes x (y :: r) = 0 := if_neg ha
      simp only [e, List.getElem_cons_zero]
      exact ha
def insP (x : Pr) (L : List Pr) : List Pr := L.take (goes x L) ++ x :: L.drop (goes x L)
def putL (id at' : Int) (L : List Pr) : List Pr := insP (id, at') (remL id L)
/-- How many come up till a time. -/
def dueN (till : Int) : List Pr → Nat
  | [] => 0
  | y :: r => if y.2 ≤ till then dueN till r + 1 else 0
theorem dueN_le {t : Int} : ∀ L, dueN t L ≤ L.length
  | [] => Nat.le_refl _
  | y :: r => by
    have := dueN_le (t := t) r
    simp only [dueN, List.length_cons]
    split <;> omega
theorem dueN_in {t : Int} : ∀ {L : List Pr} {j : Nat}, j < dueN t L → ∀ h : j < L.length, L[j].2 ≤ t
  | [], j, hj, h => by simp at h
  | y :: r, j, hj, h => by
    simp only [dueN] at hj
    split at hj
    · rename_i ha
      cases j with
      | zero => exact ha
      | succ j => exact dueN_in (L := r) (by omega) (by simpa using h)
    · omega
theorem dueN_stop {t : Int} : ∀ {L : List Pr} (h : dueN t L < L.length), ¬ L[dueN t L].2 ≤ t
  | [], h => by simp at h
  | y :: r, h => by
    by_cases ha : y.2 ≤ t
    · have e : dueN t (y :: r) = dueN t r + 1 := if_pos ha
      have h2 : dueN t r < r.length := by rw [e] at h; simpa using h
      have := dueN_stop (L := r) h2
      simp only [e, List.getElem_cons_succ]
      exact this
    · have e : dueN t (y :: r) = 0 := if_neg ha
      simp only [e, List.getElem_cons_zero]
      exact ha
end Cal
open Cal
/-- The cells of such a list. -/
def prL : List Pr → List Value
  | [] => []
  | e :: r => .int .i64 e.1 :: .int .i64 e.2 :: prL r
theorem prL_len : ∀ L : List Pr, (prL L).length = L.length * 2
  | [] => rfl
  | e :: r => by simp [prL, prL_len r]; omega
theorem prL_append : ∀ (A B : List Pr), prL (A ++ B) = prL A ++ prL B
  | [], B => rfl
  | e :: r, B => by simp [prL, prL_append r B]
theorem prL_take : ∀ (L : List Pr) (m : Nat), (prL L).take (m * 2) = prL (L.take m)
  | [], m => by simp [prL]
  | e :: r, 0 => by simp [prL]
  | e :: r, m + 1 => by
    have ih := prL_take r m
    simp only [prL, List.take_succ_cons, show (m + 1) * 2 = m * 2 + 1 + 1 from by omega, ih]
theorem prL_drop : ∀ (L : List Pr) (m : Nat), (prL L).drop (m * 2) = prL (L.drop m)
  | [], m => by simp [prL]
  | e :: r, 0 => by simp [prL]
  | e :: r, m + 1 => by
    have ih := prL_drop r m
    simp only [prL, List.drop_succ_cons, show (m + 1) * 2 = m * 2 + 1 + 1 from by omega, ih]
theorem prL_at : ∀ (L : List Pr) (i : Nat) (h : i < L.length), (prL L)[i * 2]? = some (.int .i64 L[i].1) ∧ (prL L)[i * 2 + 1]? = some (.int .i64 L[i].2)
  | e :: r, 0, _ => by simp [prL]
  | e :: r, i + 1, h => by
    have ih := prL_at r i (by simpa using h)
    simp only [prL, show (i + 1) * 2 = i * 2 + 1 + 1 from by omega, List.getElem?_cons_succ, List.getElem_cons_succ]
    exact ih
theorem prL_one : ∀ (L : List Pr), ∀ u ∈ prL L, u.oneCell' = true
  | [], u, h => by cases h
  | e :: r, u, h => by
    simp only [prL, List.mem_cons] at h
    rcases h with rfl | rfl | h
    · rfl
    · rfl
    · exact prL_one r u h
def remE (id : Int) (L : List Pr) : Int := match findI id L with
  | none => 50
  | some _ => 0
end Go.Proofs.Ytknhjbfhkfngeaa
