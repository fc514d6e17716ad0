/- A law of a range over a function for an iterator whose rounds are told by their number, and which may read at each of its steps what the loop's body has left: what the body keeps is the loop's own relation; nothing of the program; no condition. -/
import Derived.RangeFuncNested
import Derived.RangeFuncBound
import Derived.RangeFuncCalls
import Derived.RangeFuncLeaves
namespace Go.Proofs.YtpfhebfkhailfaaDoor
open Go.RowKit

/-- How a round's body may be left. -/
def Left (B : Nat) (I : Nat → World → Prop) (Ix : Code → World → Prop) (k : Nat) (W : World) : Exit → Act → World → Prop
  | .normal, _, W' => KeepsFrom B W W' ∧ I (k + 1) W'
  | .ret, _, W' => KeepsFrom B W W' ∧ Ix .ret W'
  | .exit id, _, W' => KeepsFrom B W W' ∧ Ix (.exit id) W'
  | .goto t, _, W' => KeepsFrom B W W' ∧ Ix (.goto t) W'
  | .panic _, _, _ => False
  | .outgrown, _, _ => False

/-- What an iterator is asked: at whatever the loop carries (J, which gives Rd, what the iterator may read), if each yield of what comes next (Nx) goes on or ends, it returns, at the end (En) or behind a round that ended it. -/
def Iter {α : Type} (F : Fence) (n : Nat) (P : Program) (g : Nat) (lb : Array Value) (encs : Nat → α → Array Value) (Rd : Nat → World → Prop) (Nx : Nat → α → World → Prop) (En : Nat → World → Prop) : Prop :=
  ∀ (l : Nat) (J : Nat → World → Prop) (Jx : World → Prop) (W : World), (∀ k V, J k V → Rd k V) →
    (∀ k x V, J k V → Nx k x V → YieldAt F (n - 1) P l (encs k x) V fun e V' => (e = .returned (.bool true) ∧ J (k + 1) V') ∨ (e = .returned (.bool false) ∧ Jx V')) →
    J 0 W →
    CallsIn F n P g (#[.func (.yield l) #[] #[]] ++ lb) W fun e W' => (∃ v, e = .returned v) ∧ ((∃ k, En k W' ∧ J k W') ∨ Jx W')

section
variable {F : Fence} {n : Nat} {P : Program}

theorem range_law {α : Type} {g : Operand} {ps : Array Tmp} {assign body : Code} {Q : Exit → Act → World → Prop} {a : Act} {w : World}
    (hro : F.round = none) (h1 : 1 ≤ n) {gf : Nat} {lb : Array Value} (hg : a.eval g = .func (.func gf) #[] lb) (hFg : F.fn gf) (eg : ∀ args w, (callFunc gf args).run P w = .ok (.enter gf args) w)
    {encs : Nat → α → Array Value} (hps : ∀ k x, (encs k x).size = ps.size)
    {Rd : Nat → World → Prop} {Nx : Nat → α → World → Prop} {En : Nat → World → Prop} (hit : Iter F (n - 1) P gf lb encs Rd Nx En)
    (hNx : ∀ k x V, Nx k x V → ∀ V' row, V.grownBy V' row → (∀ r, row = some r → w.heap.size ≤ r ∧ ∃ o : Obj, V.heap[r]? = some o ∧ o.isCells = false) → Nx k x V')
    (hEn : ∀ k V, En k V → ∀ V' row, V.grownBy V' row → (∀ r, row = some r → w.heap.size ≤ r ∧ ∃ o : Obj, V.heap[r]? = some o ∧ o.isCells = false) → En k V')
    (I : Nat → World → Prop) (Ix : Code → World → Prop) (hI : OwnFrom w.heap.size I) (hIx : OwnFrom w.heap.size Ix) (hRd : ∀ k V, I k V → Rd k V) (h0 : I 0 w) (a₁ : Nat → α → Act)
    (hassign : ∀ (l k : Nat) (x : α) (W : World) (K : Act → World → Prop), K (a₁ k x) W →
      assign.wpIn (F.inRound l) (n - 1 - 1) P (Exit.then K (fun _ _ _ => False)) { tmps := (ps.zip (encs k x)).foldl (fun t (p, v) => t.setIfInBounds p v) a.tmps, defers := [] } W)
    (hbody : ∀ (l k : Nat) (x : α) (W : World), I k W → Nx k x W → body.wpIn (F.inRound l) (n - 1 - 1) P (Left w.heap.size I Ix k W) (a₁ k x) W)
    (hdone : ∀ (D k : Nat) (W : World), w.heap.size ≤ D → En k W → I k W → W.heap[D]? = some (.deferred (some [])) → Q .normal { a with defers := { target := .collected D, args := #[] } :: a.defers } W)
    (hstop : ∀ (D : Nat) (c : Code) (W : World), w.heap.size ≤ D → Ix c W → W.heap[D]? = some (.deferred (some [])) → c.wpIn F n P Q { a with defers := { target := .collected D, args := #[] } :: a.defers } W) :
    (Code.rangeFunc g ps assign body).wpIn F n P Q a w := by
  apply wpIn_rangeFunc
  intro fn hfn
  rw [hro]
  -- the loop's record, by its state and the jump that is pending
  let rc : LoopState → Option Code → Loop := fun st pe => { state := st, pending := pe, fn := fn, tmps := a.tmps, params := ps, assign := assign, body := body, defers := w.heap.size }
  have two : ∀ (V : World) (st : LoopState) (pe : Option Code), V.heap[w.heap.size + 1]? = some (.loop (rc st pe)) → V.heap[w.heap.size]? = some (.deferred (some [])) → ∀ o, (V.putObj (w.heap.size + 1) o).heap[w.heap.size + 1]? = some o ∧ (V.putObj (w.heap.size + 1) o).heap[w.heap.size]? = some (.deferred (some [])) :=
    fun V st pe hl hd o => ⟨World.putObj_heap_same (Array.getElem?_eq_some_iff.1 hl).1, (World.putObj_heap_other (by omega)).trans hd⟩
  -- what stands when the record has been laid
  have start : ∀ W, W = (w.alloc (.deferred (some []))).alloc (.loop (rc .ready none)) → I 0 W ∧ W.heap[w.heap.size + 1]? = some (.loop (rc .ready none)) ∧ W.heap[w.heap.size]? = some (.deferred (some [])) := by
    rintro W rfl
    refine ⟨hI.alloc _ (hI.alloc _ h0), ?_, (Below.heap_alloc _ _ _ (by simp)).trans (World.alloc_heap_new w _)⟩
    have := World.alloc_heap_new (w.alloc (.deferred (some []))) (.loop (rc .ready none))
    rwa [World.size_alloc] at this
  obtain ⟨W1, hW1⟩ : ∃ W1, W1 = (w.alloc (.deferred (some []))).alloc (.loop (rc .ready none)) := ⟨_, rfl⟩
  obtain ⟨s0, s1, s2⟩ := start W1 hW1
  refine ⟨w.heap.size + 1, [{ target := .collected w.heap.size, args := #[] }], W1, { target := .fn (.func gf) lb, args := #[.func (.yield (w.heap.size + 1)) #[] #[]] }, W1, gf,
    #[.func (.yield (w.heap.size + 1)) #[] #[]] ++ lb, W1, by rw [hW1]; exact run_enterLoop_outer _ _ _ _ _, by simp only [resolve, hg]; simp [go_sem], ?_, by simp [invoke, go_sem, eg], fun _ => h1, ?_⟩
  · intro f' hf'
    simp [Target.leads] at hf'
    exact hf' ▸ hFg
  refine (hit (w.heap.size + 1) (fun k V => I k V ∧ V.heap[w.heap.size + 1]? = some (.loop (rc .ready none)) ∧ V.heap[w.heap.size]? = some (.deferred (some [])))
    (fun V => ∃ c, Ix c V ∧ V.heap[w.heap.size + 1]? = some (.loop (rc .done (some c))) ∧ V.heap[w.heap.size]? = some (.deferred (some [])))
    W1 (fun k V h => hRd k V h.1) ?_ ⟨s0, s1, s2⟩).mono ?_
  · -- a round
    rintro k x V ⟨hi, hl, hd⟩ hn
    have hy := run_yield (P := P) (args := encs k x) hl (hps k x)
    refine ⟨fn, _, assign, body, hy, roundIn_of_wpIn hfn (hassign _ k x V _ ⟨_, run_beginRound hl rfl, ?_⟩)⟩
    obtain ⟨hl2, hd2⟩ := two V _ _ hl hd (.loop (rc .busy none))
    have hn2 := hNx k x V hn (V.putObj (w.heap.size + 1) (.loop (rc .busy none))) _ (grownBy_putObj' _ _ _) (fun r e => by cases e; exact ⟨by omega, _, hl, rfl⟩)
    have hi2 := hI.putObj (.loop (rc .busy none)) hi (Nat.le_succ _) hl rfl
    refine wpIn_mono (hbody _ k x _ hi2 hn2) ?_
    intro e a3 V3 hp
    have fin : ∀ (jump : Option Code), KeepsFrom w.heap.size (V.putObj (w.heap.size + 1) (.loop (rc .busy none))) V3 →
        (Instr.endRound (w.heap.size + 1) jump).run P V3 = .ok (.bool jump.isNone) (V3.putObj (w.heap.size + 1) (.loop (rc (if jump.isNone then .ready else .done) jump))) ∧ V3.heap[w.heap.size + 1]? = some (.loop (rc .busy none)) ∧
        (V3.putObj (w.heap.size + 1) (.loop (rc (if jump.isNone then .ready else .done) jump))).heap[w.heap.size + 1]? = some (.loop (rc (if jump.isNone then .ready else .done) jump)) ∧
        (V3.putObj (w.heap.size + 1) (.loop (rc (if jump.isNone then .ready else .done) jump))).heap[w.heap.size]? = some (.deferred (some [])) := fun jump hk =>
      have hl3 := hk.same _ _ (Nat.le_succ _) hl2 rfl
      ⟨run_endRound (P := P) jump hl3, hl3, two V3 _ _ hl3 (hk.same _ _ (Nat.le_refl _) hd2 rfl) _⟩
    cases e with
    | normal =>
      obtain ⟨r, hl3, hl4, hd4⟩ := fin none hp.1
      exact ⟨_, _, r, .inl ⟨rfl, hI.putObj _ hp.2 (Nat.le_succ _) hl3 rfl, hl4, hd4⟩⟩
    | ret =>
      obtain ⟨r, hl3, hl4, hd4⟩ := fin (some .ret) hp.1
      exact ⟨_, _, r, .inr ⟨rfl, .ret, hIx.putObj _ hp.2 (Nat.le_succ _) hl3 rfl, hl4, hd4⟩⟩
    | exit id =>
      obtain ⟨r, hl3, hl4, hd4⟩ := fin (some (.exit id)) hp.1
      exact ⟨_, _, r, .inr ⟨rfl, .exit id, hIx.putObj _ hp.2 (Nat.le_succ _) hl3 rfl, hl4, hd4⟩⟩
    | goto t =>
      obtain ⟨r, hl3, hl4, hd4⟩ := fin (some (.goto t)) hp.1
      exact ⟨_, _, r, .inr ⟨rfl, .goto t, hIx.putObj _ hp.2 (Nat.le_succ _) hl3 rfl, hl4, hd4⟩⟩
    | panic ch => exact hp.elim
    | outgrown => exact hp.elim
  · -- behind the iterator
    rintro e V ⟨⟨v, rfl⟩, (⟨k, he, hi, hl, hd⟩ | ⟨c, hi, hl, hd⟩)⟩
    · have he2 := hEn k V he (V.putObj (w.heap.size + 1) (.loop { rc .ready none with state := .exhausted })) _ (grownBy_putObj' _ _ _) (fun r e => by cases e; exact ⟨by omega, _, hl, rfl⟩)
      exact ⟨none, _, run_endLoop (P := P) hl (by simp [rc]), hdone _ k _ (Nat.le_refl _) he2 (hI.putObj _ hi (Nat.le_succ _) hl rfl) (two V _ _ hl hd _).2⟩
    · exact ⟨some c, _, run_endLoop (P := P) hl (by simp [rc]), hstop _ c _ (Nat.le_refl _) (hIx.putObj _ hi (Nat.le_succ _) hl rfl) (two V _ _ hl hd _).2⟩
end
end Go.Proofs.YtpfhebfkhailfaaDoor
