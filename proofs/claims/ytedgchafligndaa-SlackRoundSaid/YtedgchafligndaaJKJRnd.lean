/- Round robin: a pool of tasks of one priority and one behind them; whose turn it is; no condition but those that each row names. -/
import Derived.Test.YtedgchafligndaaJB11
import Derived.Test.YtedgchafligndaaJB13
import Derived.Test.YtedgchafligndaaJB12
namespace Go.Proofs.Ytedgchafligndaa
open Go.RowKit Tsk

namespace Tsk
def rA (k : Nat) : Tab := ⟨3, List.replicate 16 1, List.replicate k true ++ List.replicate (16 - k) false, List.replicate 16 0⟩
def rP (many : Nat) : Nat → Tk := fun j => ⟨if j < many then 0 else 1, .slice none 0 0, 1, fun _ => ⟨0, 0, 0, 0⟩, kZ⟩
def rL (n : Nat) : List Int := (List.range n).map fun i : Nat => mkH 3 i 1
/-- The last one behind so many ticks. -/
def laC (many c : Nat) : Int := if c = 0 then -1 else ((c - 1) % many : Nat)
end Tsk
theorem rA_new : rA 0 = Tab.new 3 16 := rfl
theorem rA_free : ∀ k, k < 16 → (rA k).free = some k := by decide +kernel
theorem rA_takes : ∀ k, k < 16 → ((List.replicate k true ++ List.replicate (16 - k) false).set k true : List Bool) = List.replicate (k + 1) true ++ List.replicate (16 - (k + 1)) false := by decide +kernel
theorem rA_list : ∀ k, k < 16 → ((List.replicate 16 (0 : Int)).set k 0) = List.replicate 16 0 := by decide +kernel
theorem rA_add {k : Nat} (hk : k < 16) : (rA k).addAt k 0 = rA (k + 1) := by
  unfold Tab.addAt rA
  dsimp only
  rw [rA_takes k hk, rA_list k hk]
theorem rA_find : ∀ k : Nat, k < 17 → ∀ i : Nat, i < k → (rA k).find (mkH 3 i 1) = some i := by decide +kernel
theorem rA_gen : ∀ i : Nat, i < 16 → (List.replicate 16 (1 : Int)).getD i 0 = 1 := by decide +kernel
theorem rA_hd {k i : Nat} (hi : i < 16) : (rA k).hd i = mkH 3 i 1 := by
  have h := rA_gen i hi
  show mkH 3 i ((List.replicate 16 (1 : Int)).getD i 0) = _
  rw [h]
theorem rA_t : ∀ k, k < 17 → ∀ i, i < k → (rA k).t i = true := by decide +kernel
theorem rA_t2 : ∀ k, k < 17 → ∀ i, i < 16 → (rA k).t i = true → i < k := by decide +kernel
theorem rA_t3 {k i : Nat} (hk : k < 17) (h : (rA k).t i = true) : i < k := by
  by_cases hi : i < 16
  · exact rA_t2 k hk i hi h
  · unfold Tab.t rA at h
    rw [List.getD_eq_getElem?_getD, List.getElem?_eq_none (by simp; omega)] at h
    cases h
theorem nx_fin : ∀ many : Nat, many < 16 → 1 ≤ many → ∀ q : Nat, q < many + 1 → nxS (rA (many + 1)).t (rP many) ((q : Int) - 1) 16 = ((q % many : Nat) : Int) := by decide +kernel
theorem nxS_like {t : Nat → Bool} {T T' : Nat → Tk} {last prio : Int} (h : ∀ j, t j = true → (T j).n = 1 ∧ (T' j).n = 1 ∧ (T j).p = prio + (T' j).p) : ∀ k, nxS t T last k = nxS t T' last k
  | 0 => rfl
  | k + 1 => by
    have ih := nxS_like (last := last) h k
    unfold nxS
    rw [ih]
    by_cases ct : t (atN last (k + 1)) = true
    · obtain ⟨h1, h2, h3⟩ := h _ ct
      rcases nxS_in (t := t) (T := T') (last := last) k with e | ⟨i, e, _, hti, _⟩
      · rw [e]; simp [h1, h2, ct]
      · obtain ⟨g1, g2, g3⟩ := h _ hti
        rw [e]
        simp only [Int.toNat_natCast, h1, h2, h3, g3, ct]
        have e2 : (prio + (T' (atN last (k + 1))).p < prio + (T' i).p) ↔ ((T' (atN last (k + 1))).p < (T' i).p) := by omega
        simp only [e2]
    · simp [ct]
/-- The tasks behind so many ticks. -/
structure RR (prio : Int) (many k c : Nat) (T : Nat → Tk) : Prop where
  p : ∀ j, j < k → (T j).p = if j < many then prio else prio + 1
  n : ∀ j, j < k → (T j).n = 1
  f : ∀ j, j < many → j < k → 1000 - (c : Int) ≤ ((T j).f 0).l ∧ ((T j).f 0).c = 0
  g : ∀ j, j < k → (T j).k.g ≤ c
theorem RR.zero (prio : Int) (many : Nat) (T : Nat → Tk) : RR prio many 0 0 T := ⟨fun j hj => by omega, fun j hj => by omega, fun j _ hj => by omega, fun j hj => by omega⟩
theorem RR.add {prio : Int} {many k : Nat} {T : Nat → Tk} (h : RR prio many k 0 T) {pr len : Int} (hp : pr = if k < many then prio else prio + 1) (hl : k < many → len = 1000) : RR prio many (k + 1) 0 (upd (upd T k (tkN pr)) k (tkPush (tkN pr) sN ⟨len, 0, 0, 0⟩ 0)) := by
  have hx : ∀ j, j < k + 1 → j ≠ k → j < k := fun j h1 h2 => by omega
  have hne : ∀ j, j ≠ k → upd (upd T k (tkN pr)) k (tkPush (tkN pr) sN ⟨len, 0, 0, 0⟩ 0) j = T j := fun j e => by rw [upd_ne _ e, upd_ne _ e]
  refine ⟨fun j hj => ?_, fun j hj => ?_, fun j hm hj => ?_, fun j hj => ?_⟩ <;> by_cases e : j = k
  · subst e; rw [upd_same]; exact hp
  · rw [hne j e]; exact h.p j (hx j hj e)
  · subst e; rw [upd_same]; rfl
  · rw [hne j e]; exact h.n j (hx j hj e)
  · subst e; rw [upd_same]
    have := hl hm
    simp [tkPush, upd_same]; omega
  · rw [hne j e]; exact h.f j hm (hx j hj e)
  · subst e; rw [upd_same]; simp [tkPush, kZ]
  · rw [hne j e]; exact h.g j (hx j hj e)
theorem RR.give {prio : Int} {many k c : Nat} {T : Nat → Tk} (h : RR prio many k c T) (hmk : many < k) {i : Nat} (hi : i < many) (hc : c < 900) (now : Int) : RR prio many k (c + 1) (upd T i (tkRun (T i) sN now)) := by
  obtain ⟨hf1, hf2⟩ := h.f i hi (by omega)
  have l1 : ¬ (((T i).f 0).l = 1 ∨ ((T i).f 0).c = 1) := by omega
  refine ⟨fun j hj => ?_, fun j hj => ?_, fun j hm hj => ?_, fun j hj => ?_⟩ <;> by_cases e : j = i
  · subst e; rw [upd_same]; exact h.p j hj
  · rw [upd_ne _ e]; exact h.p j hj
  · subst e; rw [upd_same]
    show runN (T j).n ((T j).f 0) = 1
    unfold runN
    rw [if_neg l1]; exact h.n j hj
  · rw [upd_ne _ e]; exact h.n j hj
  · subst e; rw [upd_same]
    show 1000 - ((c + 1 : Nat) : Int) ≤ (runF (T j).f 0).l ∧ (runF (T j).f 0).c = 0
    unfold runF
    rw [if_neg l1, upd_same]
    unfold runJ
    simp only [hf2]
    exact ⟨by omega, by simp⟩
  · rw [upd_ne _ e]
    have := h.f j hm hj
    omega
  · subst e; rw [upd_same]
    have := h.g j hj
    show (runK (T j).k ((T j).f 0) now).g ≤ ((c + 1 : Nat) : Int)
    unfold runK
    show (T j).k.g + 1 ≤ _
    omega
  · rw [upd_ne _ e]
    have := h.g j hj
    omega
theorem RR.ways {prio : Int} {many c : Nat} {T : Nat → Tk} (h : RR prio many (many + 1) c T) (_hm : 1 ≤ many ∧ many < 16) {i : Nat} (hi : i < many) (hc : c < 900) (hok : okTk (T i)) (now : Int) (hn : 0 ≤ now ∧ now < 1073741824) : runE (T i).p (T i).n (T i).f (T i).k now = 0 ∧ runW ((T i).f 0) = 0 ∧ runL ((T i).f 0) now = 0 := by
  obtain ⟨hf1, hf2⟩ := h.f i hi (by omega)
  have l1 : ¬ (((T i).f 0).l = 1 ∨ ((T i).f 0).c = 1) := by omega
  have hg := h.g i (by omega)
  have hn1 := h.n i (by omega)
  refine ⟨?_, ?_, ?_⟩
  · unfold runE
    rw [if_neg (fun x => x hok), if_neg (fun x => x hn), if_neg (by omega), if_neg (by omega)]
  · unfold runW
    rw [if_neg (by omega), if_neg (by omega)]
  · unfold runL
    rw [if_neg (fun x => l1 x.1)]
theorem RR.nx {prio : Int} {many c : Nat} {T : Nat → Tk} (h : RR prio many (many + 1) c T) (hm : 1 ≤ many ∧ many < 16) : nx (rA (many + 1)) T (laC many c) = ((c % many : Nat) : Int) := by
  unfold Tsk.nx
  rw [nxS_like (T' := rP many) (prio := prio) (fun j hj => by
    have hj2 := rA_t3 (by omega) hj
    refine ⟨h.n j hj2, rfl, ?_⟩
    rw [h.p j hj2]
    unfold rP
    by_cases e : j < many
    · simp [e]
    · simp [e]) 16]
  by_cases h0 : c = 0
  · subst h0
    have := nx_fin many hm.2 hm.1 0 (by omega)
    simpa [laC] using this
  · have h1 := Nat.mod_lt (c - 1) (show 0 < many by omega)
    have h2 := nx_fin many hm.2 hm.1 ((c - 1) % many + 1) (by omega)
    have e1 : laC many c = (((c - 1) % many + 1 : Nat) : Int) - 1 := by unfold laC; rw [if_neg h0]; omega
    rw [e1, h2, Nat.mod_add_mod]
    congr 2
    omega
theorem laC_next (many c : Nat) : ((c % many : Nat) : Int) = laC many (c + 1) := by unfold laC; rw [if_neg (by omega)]; rfl
end Go.Proofs.Ytedgchafligndaa
