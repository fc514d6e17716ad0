/- FRange's law for an iterator that makes memory of its own at its steps (its answers lie there): rounds told by their number, and which may read at each of its steps what the loop's body has left: what the body keeps is the loop's own relation; nothing of the program; no condition. -/
import Derived.Test.YtpfhebfkhailfaaDoorFRange
import Derived.Test.YtpfhebfkhailfaaDoorSMem
import Derived.RangeFuncNested
import Derived.RangeFuncBound
import Derived.RangeFuncCalls
import Derived.RangeFuncLeaves
namespace Go.Proofs.YtpfhebfkhailfaaDoor
open Go.RowKit

/-- What an iterator is asked: at whatever the loop carries (J, which gives Rd, what the iterator may read), if each yield of what comes next (Nx) goes on or ends, it returns, at the end (En) or behind a round that ended it. -/
def IterG {α : Type} (F : Fence) (n : Nat) (P : Program) (g : Nat) (lb : Array Value) (encs : Nat → α → Array Value) (Rd : Nat → World → Prop) (Nx : Nat → α → World → Prop) (En : Nat → World → Prop) : Prop :=
  ∀ (l : Nat) (J : Nat → World → Prop) (Jx : World → Prop) (W : World), (∀ k V, J k V → Rd k V) → (∀ k V V', J k V → Below V.heap.size V V' → J k V') →
    (∀ k x V, J k V → Nx k x V → YieldAt F (n - 1) P l (encs k x) V fun e V' => (e = .returned (.bool true) ∧ J (k + 1) V') ∨ (e = .returned (.bool false) ∧ Jx V')) →
    J 0 W →
    CallsIn F n P g (#[.func (.yield l) #[] #[]] ++ lb) W fun e W' => (∃ v, e = .returned v) ∧ ((∃ k, En k W' ∧ J k W') ∨ Jx W')

section
variable {F : Fence} {n : Nat} {P : Program}

theorem range_lawG {α : Type} {g : Operand} {ps : Array Tmp} {assign body : Code} {Q : Exit → Act → World → Prop} {a : Act} {w : World}
    (hro : F.round = none) (h1 : 1 ≤ n) {gf : Nat} {lb : Array Value} (hg : a.eval g = .func (.func gf) #[] lb) (hFg : F.fn gf) (eg : ∀ args w, (callFunc gf args).run P w = .ok (.enter gf args) w)
    {encs : Nat → α → Array Value} (hps : ∀ k x, (encs k x).size = ps.size)
    {Rd : Nat → World → Prop} {Nx : Nat → α → World → Prop} {En : Nat → World → Prop} (hit : IterG F (n - 1) P gf lb encs Rd Nx En)
    (hNx : ∀ k x V, Nx k x V → ∀ V' row, V.grownBy V' row → (∀ r, row = some r → w.heap.size ≤ r ∧ ∃ o : Obj, V.heap[r]? = some o ∧ o.isCells = false) → Nx k x V')
    (hEn : ∀ k V, En k V → ∀ V' row, V.grownBy V' row → (∀ r, row = some r → w.heap.size ≤ r ∧ ∃ o : Obj, V.heap[r]? = some o ∧ o.isCells = false) → En k V')
    (I : Nat → World → Prop) (Ix : Code → World → Prop) (hI : OwnFrom w.heap.size I) (hIx : OwnFrom w.heap.size Ix) (hRd : ∀ k V, I k V → Rd k V) (h0 : I 0 w) (a₁ : Nat → α → World → Act) (W₁ : Nat → α → World → World) (hW₁ : ∀ k x W, Below W.heap.size W (W₁ k x W))
    (hassign : ∀ (l k : Nat) (x : α) (W : World) (K : Act → World → Prop), K (a₁ k x W) (W₁ k x W) →
      assign.wpIn (F.inRound l) (n - 1 - 1) P (Exit.then K (fun _ _ _ => False)) { tmps := (ps.zip (encs k x)).foldl (fun t (p, v) => t.setIfInBounds p v) a.tmps, defers := [] } W)
    (hbody : ∀ (l k : Nat) (x : α) (V W : World), (∀ i, V.heap.size ≤ i → W.heap[i]? = (W₁ k x V).heap[i]?) → I k W → Nx k x W → body.wpIn (F.inRound l) (n - 1 - 1) P (Left w.heap.size I Ix k W) (a₁ k x V) W)
    (hdone : ∀ (D k : Nat) (W : World), w.heap.size ≤ D → En k W → I k W → W.heap[D]? = some (.deferred (some [])) → Q .normal { a with defers := { target := .collected D, args := #[] } :: a.defers } W)
    (hstop : ∀ (D : Nat) (c : Code) (W : World), w.heap.size ≤ D → Ix c W → W.heap[D]? = some (.deferred (some [])) → c.wpIn F n P Q { a with defers := { target := .collected D, args := #[] } :: a.defers } W) :
    (Code.rangeFunc g ps assign body).wpIn F n P Q a w := by
  apply wpIn_rangeFunc
  intro fn hfn
  rw [hro]
  -- the loop's record, by its state and the jump that is pending
  let rc : LoopState → Option Code → Loop := fun st pe => { state := st, pending := pe, fn := fn, tmps := a.tmps, params := ps, assign := assign, body := body, defers := w.heap.size }
  have two : ∀ (V : World) (st : LoopState) (pe : Option Code), V.heap[w.heap.size + 1]? = some (.loop (rc st pe)) → V.heap[w.heap.size]? = some (.deferred (some [])) → ∀ o, (V.putObj (w.heap.size + 1) o).heap[w.heap.size + 1]? = some o ∧ (V.putObj (w.heap.size + 1) o).heap[w.heap.size]? = some (.deferred (some [])) :=
    fun V st pe hl hd o => ⟨World.putObj_heap_same (Array.getElem?_eq_some_iff.1 hl).1, (World.putObj_heap_other (by omega)).trans hd⟩
  -- what stands when the record has been laid
  have start : ∀ W, W = (w.alloc (.deferred (some []))).alloc (.loop (rc .ready none)) → I 0 W ∧ W.heap[w.heap.size + 1]? = some (.loop (rc .ready none)) ∧ W.heap[w.heap.size]? = some (.deferred (some [])) := by
    rintro W rfl
    refine ⟨hI.alloc _ (hI.alloc _ h0), ?_, (Below.heap_alloc _ _ _ (by simp)).trans (World.alloc_heap_new w _)⟩
    have := World.alloc_heap_new (w.alloc (.deferred (some []))) (.loop (rc .ready none))
    rwa [World.size_alloc] at this
  obtain ⟨W1, hW1⟩ : ∃ W1, W1 = (w.alloc (.deferred (some []))).alloc (.loop (rc .ready none)) := ⟨_, rfl⟩
  obtain ⟨s0, s1, s2⟩ := start W1 hW1
  refine ⟨w.heap.size + 1, [{ target := .collected w.heap.size, args := #[] }], W1, { target := .fn (.func gf) lb, args := #[.func (.yield (w.heap.size + 1)) #[] #[]] }, W1, gf,
    #[.func (.yield (w.heap.size + 1)) #[] #[]] ++ lb, W1, by rw [hW1]; exact run_enterLoop_outer _ _ _ _ _, by simp only [resolve, hg]; simp [go_sem], ?_, by simp [invoke, go_sem, eg], fun _ => h1, ?_⟩
  · intro f' hf'
    simp [Target.leads] at hf'
    exact hf' ▸ hFg
  refine (hit (w.heap.size + 1) (fun k V => I k V ∧ V.heap[w.heap.size + 1]? = some (.loop (rc .ready none)) ∧ V.heap[w.heap.size]? = some (.deferred (some [])))
    (fun V => ∃ c, Ix c V ∧ V.heap[w.heap.size + 1]? = some (.loop (rc .done (some c))) ∧ V.heap[w.heap.size]? = some (.deferred (some [])))
    W1 (fun k V h => hRd k V h.1) (fun k V V' h hb => ⟨hI k V V' none h.1 ⟨hb.os, hb.tape, hb.output, hb.size, fun i hi _ => hb.block i hi⟩ (fun r e => by cases e), (hb.block _ (Array.getElem?_eq_some_iff.1 h.2.1).1).trans h.2.1, (hb.block _ (Array.getElem?_eq_some_iff.1 h.2.2).1).trans h.2.2⟩) ?_ ⟨s0, s1, s2⟩).mono ?_
  · -- a round
    rintro k x V ⟨hi, hl, hd⟩ hn
    have hy := run_yield (P := P) (args := encs k x) hl (hps k x)
    have hb1 := hW₁ k x V
    have gr1 : V.grownBy (W₁ k x V) none := ⟨hb1.os, hb1.tape, hb1.output, hb1.size, fun i hi _ => hb1.block i hi⟩
    have hlt := (Array.getElem?_eq_some_iff.1 hl).1
    have hl1 := (hb1.block _ hlt).trans hl
    have hd1 := (hb1.block _ (Array.getElem?_eq_some_iff.1 hd).1).trans hd
    have hi1 := hI k V (W₁ k x V) none hi gr1 (fun r e => by cases e)
    have hn1 := hNx k x V hn (W₁ k x V) none gr1 (fun r e => by cases e)
    refine ⟨fn, _, assign, body, hy, roundIn_of_wpIn hfn (hassign _ k x V _ ⟨_, run_beginRound hl1 rfl, ?_⟩)⟩
    obtain ⟨hl2, hd2⟩ := two (W₁ k x V) _ _ hl1 hd1 (.loop (rc .busy none))
    have hn2 := hNx k x (W₁ k x V) hn1 ((W₁ k x V).putObj (w.heap.size + 1) (.loop (rc .busy none))) _ (grownBy_putObj' _ _ _) (fun r e => by cases e; exact ⟨by omega, _, hl1, rfl⟩)
    have hi2 := hI.putObj (.loop (rc .busy none)) hi1 (Nat.le_succ _) hl1 rfl
    have hat : ∀ i, V.heap.size ≤ i → ((W₁ k x V).putObj (w.heap.size + 1) (.loop (rc .busy none))).heap[i]? = (W₁ k x V).heap[i]? := fun i hi => World.putObj_heap_other (by omega)
    clear hl hd hi hn hl1 hd1 hi1 hn1 gr1
    generalize (W₁ k x V).putObj (w.heap.size + 1) (.loop (rc .busy none)) = V2 at *
    refine wpIn_mono (hbody _ k x V V2 hat hi2 hn2) ?_
    intro e a3 V3 hp
    have fin : ∀ (jump : Option Code), KeepsFrom w.heap.size V2 V3 →
        (Instr.endRound (w.heap.size + 1) jump).run P V3 = .ok (.bool jump.isNone) (V3.putObj (w.heap.size + 1) (.loop (rc (if jump.isNone then .ready else .done) jump))) ∧ V3.heap[w.heap.size + 1]? = some (.loop (rc .busy none)) ∧
        (V3.putObj (w.heap.size + 1) (.loop (rc (if jump.isNone then .ready else .done) jump))).heap[w.heap.size + 1]? = some (.loop (rc (if jump.isNone then .ready else .done) jump)) ∧
        (V3.putObj (w.heap.size + 1) (.loop (rc (if jump.isNone then .ready else .done) jump))).heap[w.heap.size]? = some (.deferred (some [])) := fun jump hk =>
      have hl3 := hk.same _ _ (Nat.le_succ _) hl2 rfl
      ⟨run_endRound (P := P) jump hl3, hl3, two V3 _ _ hl3 (hk.same _ _ (Nat.le_refl _) hd2 rfl) _⟩
    cases e with
    | normal =>
      obtain ⟨r, hl3, hl4, hd4⟩ := fin none hp.1
      exact ⟨_, _, r, .inl ⟨rfl, hI.putObj _ hp.2 (Nat.le_succ _) hl3 rfl, hl4, hd4⟩⟩
    | ret =>
      obtain ⟨r, hl3, hl4, hd4⟩ := fin (some .ret) hp.1
      exact ⟨_, _, r, .inr ⟨rfl, .ret, hIx.putObj _ hp.2 (Nat.le_succ _) hl3 rfl, hl4, hd4⟩⟩
    | exit id =>
      obtain ⟨r, hl3, hl4, hd4⟩ := fin (some (.exit id)) hp.1
      exact ⟨_, _, r, .inr ⟨rfl, .exit id, hIx.putObj _ hp.2 (Nat.le_succ _) hl3 rfl, hl4, hd4⟩⟩
    | goto t =>
      obtain ⟨r, hl3, hl4, hd4⟩ := fin (some (.goto t)) hp.1
      exact ⟨_, _, r, .inr ⟨rfl, .goto t, hIx.putObj _ hp.2 (Nat.le_succ _) hl3 rfl, hl4, hd4⟩⟩
    | panic ch => exact hp.elim
    | outgrown => exact hp.elim
  · -- behind the iterator
    rintro e V ⟨⟨v, rfl⟩, (⟨k, he, hi, hl, hd⟩ | ⟨c, hi, hl, hd⟩)⟩
    · have he2 := hEn k V he (V.putObj (w.heap.size + 1) (.loop { rc .ready none with state := .exhausted })) _ (grownBy_putObj' _ _ _) (fun r e => by cases e; exact ⟨by omega, _, hl, rfl⟩)
      exact ⟨none, _, run_endLoop (P := P) hl (by simp [rc]), hdone _ k _ (Nat.le_refl _) he2 (hI.putObj _ hi (Nat.le_succ _) hl rfl) (two V _ _ hl hd _).2⟩
    · exact ⟨some c, _, run_endLoop (P := P) hl (by simp [rc]), hstop _ c _ (Nat.le_refl _) (hIx.putObj _ hi (Nat.le_succ _) hl rfl) (two V _ _ hl hd _).2⟩
end
end Go.Proofs.YtpfhebfkhailfaaDoor
