/- The calendar's list beside a heap's: both are in one order, what Put, Drop leave are the same numbers; nothing of the program is walked; no condition but those that each row names. -/
import Derived.Test.YtknhjbfhkfngeaaNGood
import Derived.Test.YtknhjbfhkfngeaaEMove
namespace Go.Proofs.Ytknhjbfhkfngeaa
open Go.RowKit Hp Cal

theorem ah2 {x y : Int × Int} : ahB kc_I x y = true ↔ Lt2 x y := by
  obtain ⟨i, k⟩ := x
  obtain ⟨j, l⟩ := y
  simp only [ahB, decide_eq_true_eq]
  unfold cf kc_I Lt2
  simp only
  (repeat' split) <;> omega
theorem good_le {L : List Pr} (h : Cal.Good L) : L.Pairwise (le (ahB kc_I)) := h.sorted.imp fun {_ _} hab => ord_I.le_of (ah2.2 hab)
theorem good_mn {x : Pr} {r : List Pr} (h : Cal.Good (x :: r)) : Mn kc_I x (x :: r) :=
  ⟨by simp, fun y hy => by
    rcases List.mem_cons.1 hy with rfl | hy
    · exact ord_I.refl _
    · exact (List.pairwise_cons.1 (good_le h)).1 y hy⟩
theorem rem_none {id : Int} {L : List Pr} (h : findI id L = none) : remL id L = L := by unfold remL; rw [h]
theorem rem_perm {id : Int} {L : List Pr} {i : Nat} (h : findI id L = some i) (hi : i < L.length) : L.Perm ((id, L[i].2) :: remL id L) := by
  have h1 : remL id L = L.take i ++ L.drop (i + 1) := by unfold remL; rw [h]
  obtain ⟨_, h2, _⟩ := findI_some h
  have e : L.take i ++ L[i] :: L.drop (i + 1) = L := by rw [List.getElem_cons_drop, List.take_append_drop]
  rw [h1]
  have h3 : L[i] = (id, L[i].2) := by rw [← h2]
  rw [h3] at e
  have h4 : (L.take i ++ (id, L[i].2) :: L.drop (i + 1)).Perm ((id, L[i].2) :: (L.take i ++ L.drop (i + 1))) := List.perm_middle
  exact (List.Perm.of_eq e.symm).trans h4
theorem ins_perm (x : Pr) (L : List Pr) : (insP x L).Perm (x :: L) := by
  unfold insP
  have h : (L.take (goes x L) ++ x :: L.drop (goes x L)).Perm (x :: (L.take (goes x L) ++ L.drop (goes x L))) := List.perm_middle
  rwa [List.take_append_drop] at h
theorem put_perm (id a : Int) (L : List Pr) : ((id, a) :: remL id L).Perm (putL id a L) := (ins_perm _ _).symm
theorem rem_len (id : Int) (L : List Pr) : (remL id L).length ≤ L.length := (remL_sub id L).length_le
theorem put_len (id a : Int) (L : List Pr) : (putL id a L).length ≤ L.length + 1 := by
  have h := (put_perm id a L).length_eq
  have := rem_len id L
  simp at h
  omega
/-- When a number comes up: 0, if it is not in. -/
def atV (id : Int) (L : List Pr) : Int := match findI id L with
  | none => 0
  | some i => (L.getD i (0, 0)).2
def atB (id : Int) (L : List Pr) : Bool := (findI id L).isSome
/-- The next time; is there one? -/
def nxV : List Pr → Int
  | [] => 0
  | x :: _ => x.2
def nxB (L : List Pr) : Bool := !L.isEmpty
/-- How many come up, step by step. -/
theorem due_at {t : Int} {L : List Pr} {k : Nat} (hk : k < dueN t L) : ∃ h : k < L.length, L[k].2 ≤ t := by
  have := dueN_le (t := t) L
  exact ⟨by omega, dueN_in hk (by omega)⟩
theorem due_end {t : Int} {L : List Pr} {k : Nat} (hk : k = dueN t L) : nxB (L.drop k) = false ∨ ¬ nxV (L.drop k) ≤ t := by
  by_cases h : k < L.length
  · right
    rw [List.drop_eq_getElem_cons h]
    subst hk
    exact dueN_stop h
  · left
    rw [List.drop_of_length_le (by omega)]
    rfl
theorem drop_good {L : List Pr} (h : Cal.Good L) (k : Nat) : Cal.Good (L.drop k) := h.sub (List.drop_sublist _ _)
end Go.Proofs.Ytknhjbfhkfngeaa
