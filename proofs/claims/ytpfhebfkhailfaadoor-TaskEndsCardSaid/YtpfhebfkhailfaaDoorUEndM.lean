/- TaskEnds: what is reckoned beside the walk: a task whose jobs come in order, its account, one Run; no condition but those that each row names. -/
import Derived.Test.YtpfhebfkhailfaaDoorULawA
namespace Go.Proofs.YtpfhebfkhailfaaDoor
open Go.RowKit Go.Shelf Tsk
namespace Tsk

/-- A job as it was accepted. -/
def j0 (f : Nat → Jb) (now : Int) (i : Nat) : Jb := ⟨(f i).l, (f i).c, now, (f i).d⟩
/-- A job that the law pushes. -/
def okI (j : Jb) : Prop := (1 ≤ j.l ∧ j.l ≤ 60) ∧ (0 ≤ j.c ∧ j.c ≤ 1048576) ∧ (0 ≤ j.d ∧ j.d ≤ 1048576)
def endE (j : Jb) : Int := if 0 < j.c ∧ j.c < j.l then 2 else 1
/-- How many jobs wait behind i ended ones and s Runs of the next one. -/
def nE (f : Nat → Jb) (n i : Nat) (s : Int) : Nat := if s < need (f i) then n - i else n - (i + 1)
def fE (f : Nat → Jb) (now : Int) (i : Nat) (s : Int) : Nat → Jb := fun j => if s < need (f i) then (if j = 0 then ⟨(f i).l - s, if 0 < (f i).c then (f i).c - s else (f i).c, now, (f i).d⟩ else j0 f now (i + j)) else j0 f now (i + 1 + j)
def eE (f : Nat → Jb) (i : Nat) (s : Int) : Int := if s < need (f i) then i else i + 1
/-- The account behind them. -/
def AcE (e lo hi : Int) (k : Ac) : Prop := k.o = k.g ∧ k.n = 0 ∧ k.d + k.c = e ∧ 0 ≤ k.d ∧ 0 ≤ k.c ∧ 0 ≤ k.t ∧ k.t ≤ e ∧ lo ≤ k.g ∧ k.g ≤ hi
theorem need_le {j : Jb} (h : okI j) : 1 ≤ need j ∧ need j ≤ 60 := by
  obtain ⟨h1, h2, h3⟩ := h
  unfold need
  split <;> omega
theorem okJ_j0 {f : Nat → Jb} {now : Int} (hn : 0 ≤ now ∧ now ≤ 1048576) {i : Nat} (h : okI (f i)) : okJ (j0 f now i) := by
  obtain ⟨h1, h2, h3⟩ := h
  exact ⟨⟨h1.1, by show (f i).l ≤ 1048576; omega⟩, h2, ⟨hn.1, by show now ≤ 1073741824; omega⟩, ⟨h3.1, by show (f i).d ≤ 1073741824; omega⟩⟩
theorem okA_E {e lo hi : Int} {k : Ac} (h : AcE e lo hi k) (he : 0 ≤ lo) (hlo : e ≤ lo) (hhi : hi ≤ 1073741824) : okA k := by
  obtain ⟨h1, h2, h3, h4, h5, h6, h7, h8, h9⟩ := h
  exact ⟨⟨⟨by omega, by omega⟩, h1, h2⟩, ⟨h4, by omega⟩, ⟨h5, by omega⟩, ⟨h6, by omega⟩⟩
theorem okT_E {f : Nat → Jb} {now : Int} {n i : Nat} {s : Int} {k : Ac} (hn : n ≤ 8) (hi : i < n) (hf : ∀ j, j < n → okI (f j)) (ht : 0 ≤ now ∧ now ≤ 1048576) (hs : 0 ≤ s) (hk : okA k) : okT 0 (nE f n i s) (fE f now i s) k := by
  refine ⟨by omega, by unfold nE; split <;> omega, fun j hj => ?_, hk⟩
  have hi1 := hf i hi
  obtain ⟨a1, a2, a3⟩ := hi1
  unfold fE
  unfold nE at hj
  by_cases h : s < need (f i)
  · rw [if_pos h] at hj
    rw [if_pos h]
    by_cases hj0 : j = 0
    · rw [if_pos hj0]
      unfold need at h
      refine ⟨⟨?_, ?_⟩, ⟨?_, ?_⟩, ⟨ht.1, by show now ≤ 1073741824; omega⟩, ⟨a3.1, by show (f i).d ≤ 1073741824; omega⟩⟩
      · show 1 ≤ (f i).l - s; split at h <;> omega
      · show (f i).l - s ≤ 1048576; omega
      · show 0 ≤ if 0 < (f i).c then (f i).c - s else (f i).c
        split at h <;> split <;> omega
      · show (if 0 < (f i).c then (f i).c - s else (f i).c) ≤ 1048576
        split <;> omega
    · rw [if_neg hj0]; exact okJ_j0 ht (hf _ (by omega))
  · rw [if_neg h] at hj
    rw [if_neg h]; exact okJ_j0 ht (hf _ (by omega))
theorem fE_succ {f : Nat → Jb} {now : Int} {i j : Nat} {s : Int} (h : s < need (f i)) : fE f now i s (j + 1) = j0 f now (i + 1 + j) := by
  unfold fE
  rw [if_pos h, if_neg (by omega), show i + (j + 1) = i + 1 + j from by omega]
theorem fE_0 {f : Nat → Jb} {now : Int} {i : Nat} {s : Int} (h : s < need (f i)) : fE f now i s 0 = ⟨(f i).l - s, if 0 < (f i).c then (f i).c - s else (f i).c, now, (f i).d⟩ := by
  unfold fE
  rw [if_pos h, if_pos rfl]
/-- Is this Run the job's last one? -/
theorem fin_iff {j : Jb} (h : okI j) {s : Int} (h1 : s < need j) : (j.l - s = 1 ∨ (if 0 < j.c then j.c - s else j.c) = 1) ↔ s + 1 = need j := by
  obtain ⟨a1, a2, a3⟩ := h
  unfold need at h1 ⊢
  split at h1 <;> split <;> (try split) <;> constructor <;> intro hh <;> first | omega | (exact .inl (by omega)) | (exact .inr (by omega))
theorem work_shift (g : Nat → Jb) : ∀ n, workS g (n + 1) = need (g 0) + workS (fun j => g (j + 1)) n
  | 0 => by simp [workS]
  | n + 1 => by
    have h := work_shift g n
    show workS g (n + 1) + need (g (n + 1)) = need (g 0) + (workS (fun j => g (j + 1)) n + need (g (n + 1)))
    rw [h]; omega
theorem work_congr {g g' : Nat → Jb} : ∀ {n : Nat}, (∀ j, j < n → g j = g' j) → workS g n = workS g' n
  | 0, _ => rfl
  | n + 1, h => by
    show workS g n + need (g n) = workS g' n + need (g' n)
    rw [work_congr (fun j hj => h j (by omega)), h n (by omega)]
theorem nE_pos {f : Nat → Jb} {n i : Nat} {s : Int} (hi : i < n) (h : s < need (f i)) : nE f n i s = (n - (i + 1)) + 1 := by
  unfold nE; rw [if_pos h]; omega
section
variable {f : Nat → Jb} {now : Int} {n i : Nat} {s : Int} {k : Ac}
theorem step_N (hi : i < n) (hf : ∀ j, j < n → okI (f j)) (h : s < need (f i)) : runN (nE f n i s) (fE f now i s 0) = nE f n i (s + 1) := by
  have h2 := fin_iff (hf i hi) h
  rw [nE_pos hi h, fE_0 h]
  unfold runN nE
  simp only
  by_cases e : s + 1 = need (f i)
  · rw [if_pos (h2.2 e), if_neg (by omega)]; omega
  · rw [if_neg (fun x => e (h2.1 x)), if_pos (by omega)]; omega
theorem step_F (hi : i < n) (hf : ∀ j, j < n → okI (f j)) (h : s < need (f i)) (j : Nat) : runF (fE f now i s) j = fE f now i (s + 1) j := by
  have h2 := fin_iff (hf i hi) h
  unfold runF
  rw [fE_0 h]
  simp only
  by_cases e : s + 1 = need (f i)
  · rw [if_pos (h2.2 e)]
    rw [fE_succ h]
    unfold fE
    rw [if_neg (by omega)]
  · rw [if_neg (fun x => e (h2.1 x))]
    by_cases hj : j = 0
    · subst hj
      rw [upd_same, fE_0 (by omega)]
      have hc : (if 0 < (if 0 < (f i).c then (f i).c - s else (f i).c) then (if 0 < (f i).c then (f i).c - s else (f i).c) - 1 else (if 0 < (f i).c then (f i).c - s else (f i).c)) = if 0 < (f i).c then (f i).c - (s + 1) else (f i).c := by
        obtain ⟨a1, a2, a3⟩ := hf i hi
        unfold need at h e
        split at h <;> simp_all <;> (repeat' split) <;> omega
      unfold runJ
      simp only
      rw [hc, show (f i).l - s - 1 = (f i).l - (s + 1) from by omega]
    · obtain ⟨j, rfl⟩ : ∃ j', j = j' + 1 := ⟨j - 1, by omega⟩
      rw [upd_ne _ (by omega), fE_succ h, fE_succ (by omega)]
theorem step_W (hi : i < n) (hf : ∀ j, j < n → okI (f j)) (h : s < need (f i)) : runW (fE f now i s 0) = if s + 1 = need (f i) then endE (f i) else 0 := by
  obtain ⟨a1, a2, a3⟩ := hf i hi
  rw [fE_0 h]
  unfold runW endE
  simp only
  unfold need at h ⊢
  (repeat' split) <;> (try split at h) <;> omega
theorem step_L (hi : i < n) (hf : ∀ j, j < n → okI (f j)) (h : s < need (f i)) (a : Int) : runL (fE f now i s 0) a = if s + 1 = need (f i) ∧ 0 < (f i).d then max 0 (a + 1 - now - (f i).d) else 0 := by
  have h2 := fin_iff (hf i hi) h
  rw [fE_0 h]
  unfold runL
  simp only
  by_cases e : s + 1 = need (f i)
  · have h3 := h2.2 e
    simp only [h3, true_and, e]
    (repeat' split) <;> omega
  · rw [if_neg (fun x => e (h2.1 x.1)), if_neg (fun x => e x.1)]
theorem step_E (hn : n ≤ 8) (hi : i < n) (hf : ∀ j, j < n → okI (f j)) (ht : 0 ≤ now ∧ now ≤ 1048576) (hs : 0 ≤ s) (h : s < need (f i)) (hk : AcE (eE f i s) (i + s) (60 * i + s) k) : okT 0 (nE f n i s) (fE f now i s) k ∧ runE 0 (nE f n i s) (fE f now i s) k (now + k.g) = 0 := by
  have hl := need_le (hf i hi)
  have h9 := hk.2.2.2.2.2.2.2
  have ho : okT 0 (nE f n i s) (fE f now i s) k := okT_E hn hi hf ht hs (okA_E hk (by omega) (by unfold eE; rw [if_pos h]; omega) (by omega))
  refine ⟨ho, ?_⟩
  unfold runE
  rw [if_neg (fun x => x ho), if_neg (fun x => x ⟨by omega, by omega⟩), if_neg (by rw [nE_pos hi h]; omega), if_neg (by omega)]
theorem step_K (hi : i < n) (hf : ∀ j, j < n → okI (f j)) (h : s < need (f i)) (hk : AcE (eE f i s) (i + s) (60 * i + s) k) (a : Int) : AcE (eE f i (s + 1)) (i + (s + 1)) (60 * i + (s + 1)) (runK k (fE f now i s 0) a) ∧ (runK k (fE f now i s 0) a).g = k.g + 1 ∧ (runK k (fE f now i s 0) a).t = if 0 < runL (fE f now i s 0) a then k.t + 1 else k.t := by
  have h2 := fin_iff (hf i hi) h
  obtain ⟨h3, h4, h5, h6, h7, h8, h9, h10, h11⟩ := hk
  rw [fE_0 h]
  unfold eE at h5 h9
  rw [if_pos h] at h5 h9
  generalize (if 0 < (f i).c then (f i).c - s else (f i).c) = c' at *
  have hL : (0 < runL ⟨(f i).l - s, c', now, (f i).d⟩ a) ↔ ((((f i).l - s = 1 ∨ c' = 1) ∧ 0 < (f i).d ∧ 0 < a + 1 - now - (f i).d)) := by
    unfold runL
    simp only
    split
    · next x => exact ⟨fun _ => x, fun x => x.2.2⟩
    · next x => exact ⟨fun y => absurd y (by omega), fun y => absurd y x⟩
  refine ⟨?_, rfl, ?_⟩
  · by_cases e : s + 1 = need (f i)
    · have h3' := h2.2 e
      rw [show eE f i (s + 1) = (i : Int) + 1 from by unfold eE; rw [if_neg (by omega)]]
      unfold AcE runK
      dsimp only
      refine ⟨by omega, h4, ?_, ?_, ?_, ?_, ?_, by omega, by omega⟩ <;> (repeat' split) <;> omega
    · have h3' : ¬ ((f i).l - s = 1 ∨ c' = 1) := fun x => e (h2.1 x)
      rw [show eE f i (s + 1) = (i : Int) from by unfold eE; rw [if_pos (by omega)]]
      unfold AcE runK
      dsimp only
      refine ⟨by omega, h4, ?_, ?_, ?_, ?_, ?_, by omega, by omega⟩ <;> (repeat' split) <;> omega
  · unfold runK
    simp only
    by_cases x : 0 < runL ⟨(f i).l - s, c', now, (f i).d⟩ a
    · rw [if_pos x, if_pos (hL.1 x)]
    · rw [if_neg x, if_neg (fun y => x (hL.2 y))]
theorem step_work (hi : i < n) (hf : ∀ j, j < n → okI (f j)) (h : s < need (f i)) : workS (fE f now i (s + 1)) (nE f n i (s + 1)) = workS (fE f now i s) (nE f n i s) - 1 := by
  rw [nE_pos hi h, work_shift]
  have e1 : workS (fun j => fE f now i s (j + 1)) (n - (i + 1)) = workS (j0 f now ∘ (i + 1 + ·)) (n - (i + 1)) := work_congr fun j _ => fE_succ h
  rw [e1, fE_0 h]
  obtain ⟨a1, a2, a3⟩ := hf i hi
  have hneed : need ⟨(f i).l - s, if 0 < (f i).c then (f i).c - s else (f i).c, now, (f i).d⟩ = need (f i) - s := by
    unfold need at h ⊢
    simp only
    split at h <;> (repeat' split) <;> omega
  rw [hneed]
  by_cases e : s + 1 = need (f i)
  · have e2 : nE f n i (s + 1) = n - (i + 1) := by unfold nE; rw [if_neg (by omega)]
    rw [e2, work_congr (g := fE f now i (s + 1)) (g' := j0 f now ∘ (i + 1 + ·)) (fun j _ => by unfold fE; rw [if_neg (by omega)]; rfl)]
    omega
  · have hs1 : s + 1 < need (f i) := by omega
    rw [nE_pos hi hs1, work_shift]
    have e3 : workS (fun j => fE f now i (s + 1) (j + 1)) (n - (i + 1)) = workS (j0 f now ∘ (i + 1 + ·)) (n - (i + 1)) := work_congr fun j _ => fE_succ hs1
    have hneed2 : need ⟨(f i).l - (s + 1), if 0 < (f i).c then (f i).c - (s + 1) else (f i).c, now, (f i).d⟩ = need (f i) - (s + 1) := by
      unfold need at hs1 ⊢
      simp only
      split at hs1 <;> (repeat' split) <;> omega
    rw [e3, fE_0 hs1, hneed2]
    omega
end
end Tsk
end Go.Proofs.YtpfhebfkhailfaaDoor
