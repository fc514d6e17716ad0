/- Texts of stages 3, 4, 12, 13 and 14 that stand together: FRange FRangeG UQAll UQList UQJ QRefA QRefE QApp QRefB; no condition but those that each row names. -/
import Derived.Test.YtedgchafligndaaGreatJB1
import Derived.Test.YtedgchafligndaaGreatJB2
import Derived.RangeFuncNested
import Derived.RangeFuncBound
import Derived.RangeFuncCalls
import Derived.RangeFuncLeaves
import Derived.RangeFuncBox
import Derived.OwnWalkIn
import Derived.TacticsInMore
import Derived.LoopNIn
import Derived.LoopIn
import Derived.Maps.AppendAt
import Derived.Shelf.Abstract
import Derived.Deep.AppendLies
/- A law of a range over a function for an iterator whose rounds are told by their number, and which may read at each of its steps what the loop's body has left: what the body keeps is the loop's own relation; nothing of the program; no condition. -/
namespace Go.Proofs.YtedgchafligndaaGreat
open Go.RowKit

/-- How a round's body may be left. -/
def Left (B : Nat) (I : Nat → World → Prop) (Ix : Code → World → Prop) (k : Nat) (W : World) : Exit → Act → World → Prop
  | .normal, _, W' => KeepsFrom B W W' ∧ I (k + 1) W'
  | .ret, _, W' => KeepsFrom B W W' ∧ Ix .ret W'
  | .exit id, _, W' => KeepsFrom B W W' ∧ Ix (.exit id) W'
  | .goto t, _, W' => KeepsFrom B W W' ∧ Ix (.goto t) W'
  | .panic _, _, _ => False
  | .outgrown, _, _ => False

/-- What an iterator is asked: at whatever the loop carries (J, which gives Rd, what the iterator may read), if each yield of what comes next (Nx) goes on or ends, it returns, at the end (En) or behind a round that ended it. -/
def Iter {α : Type} (F : Fence) (n : Nat) (P : Program) (g : Nat) (lb : Array Value) (encs : Nat → α → Array Value) (Rd : Nat → World → Prop) (Nx : Nat → α → World → Prop) (En : Nat → World → Prop) : Prop :=
  ∀ (l : Nat) (J : Nat → World → Prop) (Jx : World → Prop) (W : World), (∀ k V, J k V → Rd k V) →
    (∀ k x V, J k V → Nx k x V → YieldAt F (n - 1) P l (encs k x) V fun e V' => (e = .returned (.bool true) ∧ J (k + 1) V') ∨ (e = .returned (.bool false) ∧ Jx V')) →
    J 0 W →
    CallsIn F n P g (#[.func (.yield l) #[] #[]] ++ lb) W fun e W' => (∃ v, e = .returned v) ∧ ((∃ k, En k W' ∧ J k W') ∨ Jx W')

section
variable {F : Fence} {n : Nat} {P : Program}

theorem range_law {α : Type} {g : Operand} {ps : Array Tmp} {assign body : Code} {Q : Exit → Act → World → Prop} {a : Act} {w : World}
    (hro : F.round = none) (h1 : 1 ≤ n) {gf : Nat} {lb : Array Value} (hg : a.eval g = .func (.func gf) #[] lb) (hFg : F.fn gf) (eg : ∀ args w, (callFunc gf args).run P w = .ok (.enter gf args) w)
    {encs : Nat → α → Array Value} (hps : ∀ k x, (encs k x).size = ps.size)
    {Rd : Nat → World → Prop} {Nx : Nat → α → World → Prop} {En : Nat → World → Prop} (hit : Iter F (n - 1) P gf lb encs Rd Nx En)
    (hNx : ∀ k x V, Nx k x V → ∀ V' row, V.grownBy V' row → (∀ r, row = some r → w.heap.size ≤ r ∧ ∃ o : Obj, V.heap[r]? = some o ∧ o.isCells = false) → Nx k x V')
    (hEn : ∀ k V, En k V → ∀ V' row, V.grownBy V' row → (∀ r, row = some r → w.heap.size ≤ r ∧ ∃ o : Obj, V.heap[r]? = some o ∧ o.isCells = false) → En k V')
    (I : Nat → World → Prop) (Ix : Code → World → Prop) (hI : OwnFrom w.heap.size I) (hIx : OwnFrom w.heap.size Ix) (hRd : ∀ k V, I k V → Rd k V) (h0 : I 0 w) (a₁ : Nat → α → Act)
    (hassign : ∀ (l k : Nat) (x : α) (W : World) (K : Act → World → Prop), K (a₁ k x) W →
      assign.wpIn (F.inRound l) (n - 1 - 1) P (Exit.then K (fun _ _ _ => False)) { tmps := (ps.zip (encs k x)).foldl (fun t (p, v) => t.setIfInBounds p v) a.tmps, defers := [] } W)
    (hbody : ∀ (l k : Nat) (x : α) (W : World), I k W → Nx k x W → body.wpIn (F.inRound l) (n - 1 - 1) P (Left w.heap.size I Ix k W) (a₁ k x) W)
    (hdone : ∀ (D k : Nat) (W : World), w.heap.size ≤ D → En k W → I k W → W.heap[D]? = some (.deferred (some [])) → Q .normal { a with defers := { target := .collected D, args := #[] } :: a.defers } W)
    (hstop : ∀ (D : Nat) (c : Code) (W : World), w.heap.size ≤ D → Ix c W → W.heap[D]? = some (.deferred (some [])) → c.wpIn F n P Q { a with defers := { target := .collected D, args := #[] } :: a.defers } W) :
    (Code.rangeFunc g ps assign body).wpIn F n P Q a w := by
  apply wpIn_rangeFunc
  intro fn hfn
  rw [hro]
  -- the loop's record, by its state and the jump that is pending
  let rc : LoopState → Option Code → Loop := fun st pe => { state := st, pending := pe, fn := fn, tmps := a.tmps, params := ps, assign := assign, body := body, defers := w.heap.size }
  have two : ∀ (V : World) (st : LoopState) (pe : Option Code), V.heap[w.heap.size + 1]? = some (.loop (rc st pe)) → V.heap[w.heap.size]? = some (.deferred (some [])) → ∀ o, (V.putObj (w.heap.size + 1) o).heap[w.heap.size + 1]? = some o ∧ (V.putObj (w.heap.size + 1) o).heap[w.heap.size]? = some (.deferred (some [])) :=
    fun V st pe hl hd o => ⟨World.putObj_heap_same (Array.getElem?_eq_some_iff.1 hl).1, (World.putObj_heap_other (by omega)).trans hd⟩
  -- what stands when the record has been laid
  have start : ∀ W, W = (w.alloc (.deferred (some []))).alloc (.loop (rc .ready none)) → I 0 W ∧ W.heap[w.heap.size + 1]? = some (.loop (rc .ready none)) ∧ W.heap[w.heap.size]? = some (.deferred (some [])) := by
    rintro W rfl
    refine ⟨hI.alloc _ (hI.alloc _ h0), ?_, (Below.heap_alloc _ _ _ (by simp)).trans (World.alloc_heap_new w _)⟩
    have := World.alloc_heap_new (w.alloc (.deferred (some []))) (.loop (rc .ready none))
    rwa [World.size_alloc] at this
  obtain ⟨W1, hW1⟩ : ∃ W1, W1 = (w.alloc (.deferred (some []))).alloc (.loop (rc .ready none)) := ⟨_, rfl⟩
  obtain ⟨s0, s1, s2⟩ := start W1 hW1
  refine ⟨w.heap.size + 1, [{ target := .collected w.heap.size, args := #[] }], W1, { target := .fn (.func gf) lb, args := #[.func (.yield (w.heap.size + 1)) #[] #[]] }, W1, gf,
    #[.func (.yield (w.heap.size + 1)) #[] #[]] ++ lb, W1, by rw [hW1]; exact run_enterLoop_outer _ _ _ _ _, by simp only [resolve, hg]; simp [go_sem], ?_, by simp [invoke, go_sem, eg], fun _ => h1, ?_⟩
  · intro f' hf'
    simp [Target.leads] at hf'
    exact hf' ▸ hFg
  refine (hit (w.heap.size + 1) (fun k V => I k V ∧ V.heap[w.heap.size + 1]? = some (.loop (rc .ready none)) ∧ V.heap[w.heap.size]? = some (.deferred (some [])))
    (fun V => ∃ c, Ix c V ∧ V.heap[w.heap.size + 1]? = some (.loop (rc .done (some c))) ∧ V.heap[w.heap.size]? = some (.deferred (some [])))
    W1 (fun k V h => hRd k V h.1) ?_ ⟨s0, s1, s2⟩).mono ?_
  · -- a round
    rintro k x V ⟨hi, hl, hd⟩ hn
    have hy := run_yield (P := P) (args := encs k x) hl (hps k x)
    refine ⟨fn, _, assign, body, hy, roundIn_of_wpIn hfn (hassign _ k x V _ ⟨_, run_beginRound hl rfl, ?_⟩)⟩
    obtain ⟨hl2, hd2⟩ := two V _ _ hl hd (.loop (rc .busy none))
    have hn2 := hNx k x V hn (V.putObj (w.heap.size + 1) (.loop (rc .busy none))) _ (grownBy_putObj' _ _ _) (fun r e => by cases e; exact ⟨by omega, _, hl, rfl⟩)
    have hi2 := hI.putObj (.loop (rc .busy none)) hi (Nat.le_succ _) hl rfl
    refine wpIn_mono (hbody _ k x _ hi2 hn2) ?_
    intro e a3 V3 hp
    have fin : ∀ (jump : Option Code), KeepsFrom w.heap.size (V.putObj (w.heap.size + 1) (.loop (rc .busy none))) V3 →
        (Instr.endRound (w.heap.size + 1) jump).run P V3 = .ok (.bool jump.isNone) (V3.putObj (w.heap.size + 1) (.loop (rc (if jump.isNone then .ready else .done) jump))) ∧ V3.heap[w.heap.size + 1]? = some (.loop (rc .busy none)) ∧
        (V3.putObj (w.heap.size + 1) (.loop (rc (if jump.isNone then .ready else .done) jump))).heap[w.heap.size + 1]? = some (.loop (rc (if jump.isNone then .ready else .done) jump)) ∧
        (V3.putObj (w.heap.size + 1) (.loop (rc (if jump.isNone then .ready else .done) jump))).heap[w.heap.size]? = some (.deferred (some [])) := fun jump hk =>
      have hl3 := hk.same _ _ (Nat.le_succ _) hl2 rfl
      ⟨run_endRound (P := P) jump hl3, hl3, two V3 _ _ hl3 (hk.same _ _ (Nat.le_refl _) hd2 rfl) _⟩
    cases e with
    | normal =>
      obtain ⟨r, hl3, hl4, hd4⟩ := fin none hp.1
      exact ⟨_, _, r, .inl ⟨rfl, hI.putObj _ hp.2 (Nat.le_succ _) hl3 rfl, hl4, hd4⟩⟩
    | ret =>
      obtain ⟨r, hl3, hl4, hd4⟩ := fin (some .ret) hp.1
      exact ⟨_, _, r, .inr ⟨rfl, .ret, hIx.putObj _ hp.2 (Nat.le_succ _) hl3 rfl, hl4, hd4⟩⟩
    | exit id =>
      obtain ⟨r, hl3, hl4, hd4⟩ := fin (some (.exit id)) hp.1
      exact ⟨_, _, r, .inr ⟨rfl, .exit id, hIx.putObj _ hp.2 (Nat.le_succ _) hl3 rfl, hl4, hd4⟩⟩
    | goto t =>
      obtain ⟨r, hl3, hl4, hd4⟩ := fin (some (.goto t)) hp.1
      exact ⟨_, _, r, .inr ⟨rfl, .goto t, hIx.putObj _ hp.2 (Nat.le_succ _) hl3 rfl, hl4, hd4⟩⟩
    | panic ch => exact hp.elim
    | outgrown => exact hp.elim
  · -- behind the iterator
    rintro e V ⟨⟨v, rfl⟩, (⟨k, he, hi, hl, hd⟩ | ⟨c, hi, hl, hd⟩)⟩
    · have he2 := hEn k V he (V.putObj (w.heap.size + 1) (.loop { rc .ready none with state := .exhausted })) _ (grownBy_putObj' _ _ _) (fun r e => by cases e; exact ⟨by omega, _, hl, rfl⟩)
      exact ⟨none, _, run_endLoop (P := P) hl (by simp [rc]), hdone _ k _ (Nat.le_refl _) he2 (hI.putObj _ hi (Nat.le_succ _) hl rfl) (two V _ _ hl hd _).2⟩
    · exact ⟨some c, _, run_endLoop (P := P) hl (by simp [rc]), hstop _ c _ (Nat.le_refl _) (hIx.putObj _ hi (Nat.le_succ _) hl rfl) (two V _ _ hl hd _).2⟩
end
end Go.Proofs.YtedgchafligndaaGreat
/- FRange's law for an iterator that makes memory of its own at its steps (its answers lie there): rounds told by their number, and which may read at each of its steps what the loop's body has left: what the body keeps is the loop's own relation; nothing of the program; no condition. -/
namespace Go.Proofs.YtedgchafligndaaGreat
open Go.RowKit

/-- What an iterator is asked: at whatever the loop carries (J, which gives Rd, what the iterator may read), if each yield of what comes next (Nx) goes on or ends, it returns, at the end (En) or behind a round that ended it. -/
def IterG {α : Type} (F : Fence) (n : Nat) (P : Program) (g : Nat) (lb : Array Value) (encs : Nat → α → Array Value) (Rd : Nat → World → Prop) (Nx : Nat → α → World → Prop) (En : Nat → World → Prop) : Prop :=
  ∀ (l : Nat) (J : Nat → World → Prop) (Jx : World → Prop) (W : World), (∀ k V, J k V → Rd k V) → (∀ k V V', J k V → Below V.heap.size V V' → J k V') →
    (∀ k x V, J k V → Nx k x V → YieldAt F (n - 1) P l (encs k x) V fun e V' => (e = .returned (.bool true) ∧ J (k + 1) V') ∨ (e = .returned (.bool false) ∧ Jx V')) →
    J 0 W →
    CallsIn F n P g (#[.func (.yield l) #[] #[]] ++ lb) W fun e W' => (∃ v, e = .returned v) ∧ ((∃ k, En k W' ∧ J k W') ∨ Jx W')

section
variable {F : Fence} {n : Nat} {P : Program}

theorem range_lawG {α : Type} {g : Operand} {ps : Array Tmp} {assign body : Code} {Q : Exit → Act → World → Prop} {a : Act} {w : World}
    (hro : F.round = none) (h1 : 1 ≤ n) {gf : Nat} {lb : Array Value} (hg : a.eval g = .func (.func gf) #[] lb) (hFg : F.fn gf) (eg : ∀ args w, (callFunc gf args).run P w = .ok (.enter gf args) w)
    {encs : Nat → α → Array Value} (hps : ∀ k x, (encs k x).size = ps.size)
    {Rd : Nat → World → Prop} {Nx : Nat → α → World → Prop} {En : Nat → World → Prop} (hit : IterG F (n - 1) P gf lb encs Rd Nx En)
    (hNx : ∀ k x V, Nx k x V → ∀ V' row, V.grownBy V' row → (∀ r, row = some r → w.heap.size ≤ r ∧ ∃ o : Obj, V.heap[r]? = some o ∧ o.isCells = false) → Nx k x V')
    (hEn : ∀ k V, En k V → ∀ V' row, V.grownBy V' row → (∀ r, row = some r → w.heap.size ≤ r ∧ ∃ o : Obj, V.heap[r]? = some o ∧ o.isCells = false) → En k V')
    (I : Nat → World → Prop) (Ix : Code → World → Prop) (hI : OwnFrom w.heap.size I) (hIx : OwnFrom w.heap.size Ix) (hRd : ∀ k V, I k V → Rd k V) (h0 : I 0 w) (a₁ : Nat → α → World → Act) (W₁ : Nat → α → World → World) (hW₁ : ∀ k x W, Below W.heap.size W (W₁ k x W))
    (hassign : ∀ (l k : Nat) (x : α) (W : World) (K : Act → World → Prop), K (a₁ k x W) (W₁ k x W) →
      assign.wpIn (F.inRound l) (n - 1 - 1) P (Exit.then K (fun _ _ _ => False)) { tmps := (ps.zip (encs k x)).foldl (fun t (p, v) => t.setIfInBounds p v) a.tmps, defers := [] } W)
    (hbody : ∀ (l k : Nat) (x : α) (V W : World), (∀ i, V.heap.size ≤ i → W.heap[i]? = (W₁ k x V).heap[i]?) → I k W → Nx k x W → body.wpIn (F.inRound l) (n - 1 - 1) P (Left w.heap.size I Ix k W) (a₁ k x V) W)
    (hdone : ∀ (D k : Nat) (W : World), w.heap.size ≤ D → En k W → I k W → W.heap[D]? = some (.deferred (some [])) → Q .normal { a with defers := { target := .collected D, args := #[] } :: a.defers } W)
    (hstop : ∀ (D : Nat) (c : Code) (W : World), w.heap.size ≤ D → Ix c W → W.heap[D]? = some (.deferred (some [])) → c.wpIn F n P Q { a with defers := { target := .collected D, args := #[] } :: a.defers } W) :
    (Code.rangeFunc g ps assign body).wpIn F n P Q a w := by
  apply wpIn_rangeFunc
  intro fn hfn
  rw [hro]
  -- the loop's record, by its state and the jump that is pending
  let rc : LoopState → Option Code → Loop := fun st pe => { state := st, pending := pe, fn := fn, tmps := a.tmps, params := ps, assign := assign, body := body, defers := w.heap.size }
  have two : ∀ (V : World) (st : LoopState) (pe : Option Code), V.heap[w.heap.size + 1]? = some (.loop (rc st pe)) → V.heap[w.heap.size]? = some (.deferred (some [])) → ∀ o, (V.putObj (w.heap.size + 1) o).heap[w.heap.size + 1]? = some o ∧ (V.putObj (w.heap.size + 1) o).heap[w.heap.size]? = some (.deferred (some [])) :=
    fun V st pe hl hd o => ⟨World.putObj_heap_same (Array.getElem?_eq_some_iff.1 hl).1, (World.putObj_heap_other (by omega)).trans hd⟩
  -- what stands when the record has been laid
  have start : ∀ W, W = (w.alloc (.deferred (some []))).alloc (.loop (rc .ready none)) → I 0 W ∧ W.heap[w.heap.size + 1]? = some (.loop (rc .ready none)) ∧ W.heap[w.heap.size]? = some (.deferred (some [])) := by
    rintro W rfl
    refine ⟨hI.alloc _ (hI.alloc _ h0), ?_, (Below.heap_alloc _ _ _ (by simp)).trans (World.alloc_heap_new w _)⟩
    have := World.alloc_heap_new (w.alloc (.deferred (some []))) (.loop (rc .ready none))
    rwa [World.size_alloc] at this
  obtain ⟨W1, hW1⟩ : ∃ W1, W1 = (w.alloc (.deferred (some []))).alloc (.loop (rc .ready none)) := ⟨_, rfl⟩
  obtain ⟨s0, s1, s2⟩ := start W1 hW1
  refine ⟨w.heap.size + 1, [{ target := .collected w.heap.size, args := #[] }], W1, { target := .fn (.func gf) lb, args := #[.func (.yield (w.heap.size + 1)) #[] #[]] }, W1, gf,
    #[.func (.yield (w.heap.size + 1)) #[] #[]] ++ lb, W1, by rw [hW1]; exact run_enterLoop_outer _ _ _ _ _, by simp only [resolve, hg]; simp [go_sem], ?_, by simp [invoke, go_sem, eg], fun _ => h1, ?_⟩
  · intro f' hf'
    simp [Target.leads] at hf'
    exact hf' ▸ hFg
  refine (hit (w.heap.size + 1) (fun k V => I k V ∧ V.heap[w.heap.size + 1]? = some (.loop (rc .ready none)) ∧ V.heap[w.heap.size]? = some (.deferred (some [])))
    (fun V => ∃ c, Ix c V ∧ V.heap[w.heap.size + 1]? = some (.loop (rc .done (some c))) ∧ V.heap[w.heap.size]? = some (.deferred (some [])))
    W1 (fun k V h => hRd k V h.1) (fun k V V' h hb => ⟨hI k V V' none h.1 ⟨hb.os, hb.tape, hb.output, hb.size, fun i hi _ => hb.block i hi⟩ (fun r e => by cases e), (hb.block _ (Array.getElem?_eq_some_iff.1 h.2.1).1).trans h.2.1, (hb.block _ (Array.getElem?_eq_some_iff.1 h.2.2).1).trans h.2.2⟩) ?_ ⟨s0, s1, s2⟩).mono ?_
  · -- a round
    rintro k x V ⟨hi, hl, hd⟩ hn
    have hy := run_yield (P := P) (args := encs k x) hl (hps k x)
    have hb1 := hW₁ k x V
    have gr1 : V.grownBy (W₁ k x V) none := ⟨hb1.os, hb1.tape, hb1.output, hb1.size, fun i hi _ => hb1.block i hi⟩
    have hlt := (Array.getElem?_eq_some_iff.1 hl).1
    have hl1 := (hb1.block _ hlt).trans hl
    have hd1 := (hb1.block _ (Array.getElem?_eq_some_iff.1 hd).1).trans hd
    have hi1 := hI k V (W₁ k x V) none hi gr1 (fun r e => by cases e)
    have hn1 := hNx k x V hn (W₁ k x V) none gr1 (fun r e => by cases e)
    refine ⟨fn, _, assign, body, hy, roundIn_of_wpIn hfn (hassign _ k x V _ ⟨_, run_beginRound hl1 rfl, ?_⟩)⟩
    obtain ⟨hl2, hd2⟩ := two (W₁ k x V) _ _ hl1 hd1 (.loop (rc .busy none))
    have hn2 := hNx k x (W₁ k x V) hn1 ((W₁ k x V).putObj (w.heap.size + 1) (.loop (rc .busy none))) _ (grownBy_putObj' _ _ _) (fun r e => by cases e; exact ⟨by omega, _, hl1, rfl⟩)
    have hi2 := hI.putObj (.loop (rc .busy none)) hi1 (Nat.le_succ _) hl1 rfl
    have hat : ∀ i, V.heap.size ≤ i → ((W₁ k x V).putObj (w.heap.size + 1) (.loop (rc .busy none))).heap[i]? = (W₁ k x V).heap[i]? := fun i hi => World.putObj_heap_other (by omega)
    clear hl hd hi hn hl1 hd1 hi1 hn1 gr1
    generalize (W₁ k x V).putObj (w.heap.size + 1) (.loop (rc .busy none)) = V2 at *
    refine wpIn_mono (hbody _ k x V V2 hat hi2 hn2) ?_
    intro e a3 V3 hp
    have fin : ∀ (jump : Option Code), KeepsFrom w.heap.size V2 V3 →
        (Instr.endRound (w.heap.size + 1) jump).run P V3 = .ok (.bool jump.isNone) (V3.putObj (w.heap.size + 1) (.loop (rc (if jump.isNone then .ready else .done) jump))) ∧ V3.heap[w.heap.size + 1]? = some (.loop (rc .busy none)) ∧
        (V3.putObj (w.heap.size + 1) (.loop (rc (if jump.isNone then .ready else .done) jump))).heap[w.heap.size + 1]? = some (.loop (rc (if jump.isNone then .ready else .done) jump)) ∧
        (V3.putObj (w.heap.size + 1) (.loop (rc (if jump.isNone then .ready else .done) jump))).heap[w.heap.size]? = some (.deferred (some [])) := fun jump hk =>
      have hl3 := hk.same _ _ (Nat.le_succ _) hl2 rfl
      ⟨run_endRound (P := P) jump hl3, hl3, two V3 _ _ hl3 (hk.same _ _ (Nat.le_refl _) hd2 rfl) _⟩
    cases e with
    | normal =>
      obtain ⟨r, hl3, hl4, hd4⟩ := fin none hp.1
      exact ⟨_, _, r, .inl ⟨rfl, hI.putObj _ hp.2 (Nat.le_succ _) hl3 rfl, hl4, hd4⟩⟩
    | ret =>
      obtain ⟨r, hl3, hl4, hd4⟩ := fin (some .ret) hp.1
      exact ⟨_, _, r, .inr ⟨rfl, .ret, hIx.putObj _ hp.2 (Nat.le_succ _) hl3 rfl, hl4, hd4⟩⟩
    | exit id =>
      obtain ⟨r, hl3, hl4, hd4⟩ := fin (some (.exit id)) hp.1
      exact ⟨_, _, r, .inr ⟨rfl, .exit id, hIx.putObj _ hp.2 (Nat.le_succ _) hl3 rfl, hl4, hd4⟩⟩
    | goto t =>
      obtain ⟨r, hl3, hl4, hd4⟩ := fin (some (.goto t)) hp.1
      exact ⟨_, _, r, .inr ⟨rfl, .goto t, hIx.putObj _ hp.2 (Nat.le_succ _) hl3 rfl, hl4, hd4⟩⟩
    | panic ch => exact hp.elim
    | outgrown => exact hp.elim
  · -- behind the iterator
    rintro e V ⟨⟨v, rfl⟩, (⟨k, he, hi, hl, hd⟩ | ⟨c, hi, hl, hd⟩)⟩
    · have he2 := hEn k V he (V.putObj (w.heap.size + 1) (.loop { rc .ready none with state := .exhausted })) _ (grownBy_putObj' _ _ _) (fun r e => by cases e; exact ⟨by omega, _, hl, rfl⟩)
      exact ⟨none, _, run_endLoop (P := P) hl (by simp [rc]), hdone _ k _ (Nat.le_refl _) he2 (hI.putObj _ hi (Nat.le_succ _) hl rfl) (two V _ _ hl hd _).2⟩
    · exact ⟨some c, _, run_endLoop (P := P) hl (by simp [rc]), hstop _ c _ (Nat.le_refl _) (hIx.putObj _ hi (Nat.le_succ _) hl rfl) (two V _ _ hl hd _).2⟩
end
end Go.Proofs.YtedgchafligndaaGreat
/- The program's All of a queue of jobs: what it makes, and its rounds: at each step it reads the place as the queue stands then; no condition. -/
namespace Go.Proofs.YtedgchafligndaaGreat
open Go.RowKit Tsk
attribute [local go_sem] Oper.semAt_some

/-- What a pointer's queue holds. -/
def Holds_J (W : World) (q : Value) (L : List Jb) : Prop :=
  (q = .pointer none ∧ L = []) ∨ ∃ B b s A, q = .pointer (some ⟨b, 0, none⟩) ∧ PQ QT_J ET_J 4 B W A b s ∧ A.Good 4 ∧ A.l.map (·.1) = L.map (fun x => (.agg #[.int .i64 x.l, .int .i64 x.c, .int .i64 x.a, .int .i64 x.d]))
def Reads_J (bx : Nat) (W : World) (L : List Jb) : Prop := ∃ q, W.cell? ⟨bx, 0, none⟩ = some q ∧ Holds_J W q L
theorem Holds_J.len {W : World} {q : Value} {L : List Jb} (h : Holds_J W q L) : L.length ≤ 4096 := by
  rcases h with ⟨_, rfl⟩ | ⟨B, b, s, A, _, h, hA, e⟩
  · simp
  · have := congrArg List.length e
    simp at this
    rw [← this]; exact hA.n4
theorem PQ.turn {T E : TypeId} {k B : Nat} {w w' : World} {A : Qu} {b : Nat} {s : Value} {row : Option Nat} (h : PQ T E k B w A b s) (hg : w.grownBy w' row) (hr : ∀ r, row = some r → ∃ o : Obj, w.heap[r]? = some o ∧ o.isCells = false) : PQ T E k B w' A b s := by
  refine h.kept hg (fun e => ?_) ?_
  · obtain ⟨o, ho, hc⟩ := hr b e.symm
    rw [h.blk] at ho; cases ho; cases hc
  · cases hs : s.ownBlock with
    | none => exact .inl rfl
    | some g =>
      refine .inr fun e => ?_
      obtain ⟨o, ho, hc⟩ := hr g e.symm
      rcases h.own.2 with ⟨rfl, _⟩ | ⟨g', cap, cur, rfl, _, hgg, _⟩
      · simp [Value.ownBlock] at hs
      · simp [Value.ownBlock] at hs
        subst hs
        rw [hgg] at ho; cases ho; cases hc
theorem Holds_J.turn {W W' : World} {q : Value} {L : List Jb} {row : Option Nat} (h : Holds_J W q L) (hg : W.grownBy W' row) (hr : ∀ r, row = some r → ∃ o : Obj, W.heap[r]? = some o ∧ o.isCells = false) : Holds_J W' q L := by
  rcases h with h | ⟨B, b, s, A, e, h, r⟩
  · exact .inl h
  · exact .inr ⟨B, b, s, A, e, h.turn hg hr, r⟩
theorem Reads_J.turn {W W' : World} {bx : Nat} {L : List Jb} {row : Option Nat} (h : Reads_J bx W L) (hg : W.grownBy W' row) (hr : ∀ r, row = some r → ∃ o : Obj, W.heap[r]? = some o ∧ o.isCells = false) : Reads_J bx W' L := by
  obtain ⟨q, h1, h2⟩ := h
  exact ⟨q, cell_kept h1 hg hr, h2.turn hg hr⟩

theorem PQ.same_s {T E T' E' : TypeId} {k k' B B' : Nat} {w : World} {A A' : Qu} {b : Nat} {s s' : Value} (h : PQ T E k B w A b s) (h' : PQ T' E' k' B' w A' b s') : s = s' := by
  have e := h.f1.symm.trans h'.f1
  exact Option.some.inj e
theorem jb_ext {x y : Jb} (ha : x.l = y.l) (hb : x.c = y.c) (hc : x.a = y.a) (hd : x.d = y.d) : x = y := by
  cases x; cases y; simp at ha hb hc hd; simp [ha, hb, hc, hd]
theorem Holds_J.uniq {W : World} {q : Value} {L L' : List Jb} (h : Holds_J W q L) (h' : Holds_J W q L') : L = L' := by
  rcases h with ⟨rfl, rfl⟩ | ⟨B, b, s, A, rfl, h, hA, e⟩
  · rcases h' with ⟨_, rfl⟩ | ⟨_, _, _, _, e', _⟩
    · rfl
    · cases e'
  · rcases h' with ⟨e', _⟩ | ⟨B', b', s', A', e1, h', hA', e'⟩
    · cases e'
    · cases e1
      obtain rfl := h.same_s h'
      obtain ⟨p, cap, hs⟩ := h.shape
      obtain ⟨p', cap', hs'⟩ := h'.shape
      have hl : A.l.length = A'.l.length := by rw [hs] at hs'; injection hs'
      have l1 := congrArg List.length e
      have l2 := congrArg List.length e'
      simp at l1 l2
      apply List.ext_getElem (by omega)
      intro i h1 h2
      have g1 := congrArg (fun l => l[i]?) e
      have g2 := congrArg (fun l => l[i]?) e'
      simp only [List.getElem?_map, List.getElem?_eq_getElem h1, List.getElem?_eq_getElem h2, List.getElem?_eq_getElem (show i < A.l.length by omega), List.getElem?_eq_getElem (show i < A'.l.length by omega), Option.map_some, Option.some.injEq] at g1 g2
      obtain ⟨g, cap, hf, _⟩ := h.form (by omega)
      obtain ⟨c0, c1, c2, c3⟩ := h.elem4 hA hf (by omega) g1
      obtain ⟨d0, d1, d2, d3⟩ := h'.elem4 hA' (by rw [← hl]; exact hf) (by omega) g2
      have e0 := c0.symm.trans d0
      have e1 := c1.symm.trans d1
      have e2 := c2.symm.trans d2
      have e3 := c3.symm.trans d3
      simp at e0 e1 e2 e3
      exact jb_ext e0 e1 e2 e3
theorem Reads_J.uniq {W : World} {bx : Nat} {L L' : List Jb} (h : Reads_J bx W L) (h' : Reads_J bx W L') : L = L' := by
  obtain ⟨q, h1, h2⟩ := h
  obtain ⟨q', h1', h2'⟩ := h'
  obtain rfl := Option.some.inj (h1.symm.trans h1')
  exact h2.uniq h2'
theorem Holds_J.below {W W' : World} {q : Value} {L : List Jb} (h : Holds_J W q L) (hb : Below W.heap.size W W') : Holds_J W' q L := by
  rcases h with h | ⟨B, b, s, A, e, h, r⟩
  · exact .inl h
  · exact .inr ⟨B, b, s, A, e, h.below hb, r⟩
theorem at_holds_yes_J (W : World) (q : Value) (L : List Jb) (h : Holds_J W q L) (k : Nat) (x : Jb) (hx : L[k]? = some x) :
    Calls Tryz.prog 106 #[q, .int .i64 k] W fun e w' => e = .returned (.tuple #[(.agg #[.int .i64 x.l, .int .i64 x.c, .int .i64 x.a, .int .i64 x.d]), .bool true]) ∧ Below W.heap.size W w' := by
  rcases h with ⟨_, rfl⟩ | ⟨B, b, s, A, rfl, h, hA, e⟩
  · simp at hx
  · have hl := congrArg List.length e
    simp at hl
    obtain ⟨hk, hxx⟩ := List.getElem?_eq_some_iff.1 hx
    refine at_yes_J B A hA W b s h k (by omega) x ?_
    have := congrArg (fun l => l[k]?) e
    simp [hx] at this
    obtain ⟨n, hn⟩ := this
    have hk' : k < A.l.length := by omega
    rw [List.getElem?_eq_getElem hk'] at hn
    have := Option.some.inj hn
    rw [this]
theorem at_holds_no_J (W : World) (q : Value) (L : List Jb) (h : Holds_J W q L) (i : Int) (hi : i < 0 ∨ L.length ≤ i) :
    Calls Tryz.prog 106 #[q, .int .i64 i] W fun e w' => e = .returned (.tuple #[zero_J, .bool false]) ∧ Below W.heap.size W w' := by
  rcases h with ⟨rfl, rfl⟩ | ⟨B, b, s, A, rfl, h, hA, e⟩
  · exact at_nil_J W i
  · have hl := congrArg List.length e
    simp at hl
    exact at_no_J 4 B A W b s h i (by simp [hasB]; omega)

set_option maxHeartbeats 400000 in
theorem all_J (w : World) (q : Option Addr) :
    Calls Tryz.prog 92 #[.pointer q] w fun e w' => e = .returned (.func (.func 105) #[] #[.pointer (some ⟨w.heap.size, 0, none⟩)]) ∧ w' = w.alloc (.cells #[.pointer q] 134) := by
  go_enter Tryz.func92, Tryz.ntmps92
  go_wp2
  go_ret
  exact ⟨rfl, rfl⟩

def encs_J (k : Nat) (x : Jb) : Array Value := #[.int .i64 k, (.agg #[.int .i64 x.l, .int .i64 x.c, .int .i64 x.a, .int .i64 x.d])]
set_option maxHeartbeats 2000000 in
set_option maxRecDepth 100000 in
theorem all_iter_J (n : Nat) (hn : 2 ≤ n) (bx : Nat) :
    IterG Fence.wide n Tryz.prog 105 #[.pointer (some ⟨bx, 0, none⟩)] encs_J (fun _ W => ∃ L, Reads_J bx W L) (fun k x W => ∃ L, Reads_J bx W L ∧ L[k]? = some x) (fun k W => ∃ L, Reads_J bx W L ∧ L.length ≤ k) := by
  intro l J Jx W hR hS hY h0
  have HS := Lib.hid hS
  have HR := Lib.hid hR
  have HY := Lib.hid hY
  clear hR hY hS
  refine callsIn_of_wp Tryz.func105 rfl trivial ?_ rfl
  simp only [Tryz.ntmps105, List.size_toArray, List.length_cons, List.length_nil, Nat.reduceAdd, Nat.reduceSub, Array.replicate_succ, Array.replicate_zero, List.push_toArray, List.append_toArray, List.nil_append, List.cons_append]
  gi_wp2
  gi_loopw [3, 4, 5, 8] (fun p _ _ _ wr => ∃ k : Nat, p = .int .i64 k ∧ k ≤ 4096 ∧ J k wr) (fun p _ _ _ _ => 4096 - (intOf p).toNat)
  case atStart => exact ⟨0, rfl, by omega, h0⟩
  case round =>
    obtain ⟨k, rfl, hk, hj⟩ := hrel
    obtain ⟨L, q, hq, hh⟩ := HR.out k wr hj
    have hll := hh.len
    have HJ := Lib.hid hj
    have HH := Lib.hid hh
    clear hj hh
    by_cases hlt : k < L.length
    · have hyes := at_holds_yes_J wr q L HH.out k L[k] (by simp)
      have HYK := Lib.hid (fun W2 (hb : Below wr.heap.size wr W2) => HY.out k L[k] W2 (HS.out k wr W2 HJ.out hb) ⟨L, ⟨q, (hb.cell (p := ⟨bx, 0, none⟩) (cell_lt hq)).trans hq, HH.out.below hb⟩, by simp⟩)
      have z1 : (k : Int) + 1 ≤ 4097 := by omega
      generalize L[k] = x at *
      gi_wp2_with fail
      refine ⟨trivial, (fun _ => by omega), ?_⟩
      refine (callsIn_wide.2 hyes).mono ?_
      rintro e w2 ⟨rfl, hb2⟩
      obtain ⟨fn, tmps, assign, body, hy, hRo⟩ := HYK.out _ (hb2.alloc hb2.size (.cells #[.int .i64 x.l, .int .i64 x.c, .int .i64 x.a, .int .i64 x.d] 45))
      unfold encs_J at hy
      have HRo := Lib.hid hRo
      clear hRo hb2 HYK hyes
      gi_wp2_with fail
      refine ⟨(fun _ => by omega), ?_⟩
      refine HRo.out.mono ?_
      rintro e W3 (⟨rfl, hJ3⟩ | ⟨rfl, hJx3⟩)
      · gi_wp2
        go_roundw
        case rel => exact ⟨k + 1, by go_num, by omega, hJ3⟩
        case measure => simp [intOf]; omega
      · gi_wp2
        refine bodyPost_ret (results_none rfl _ _ _) rfl ?_
        exact ⟨⟨_, rfl⟩, .inr hJx3⟩
    · have hno := at_holds_no_J wr q L HH.out (k : Int) (.inr (by omega))
      gi_wp2_with fail
      refine ⟨trivial, (fun _ => by omega), ?_⟩
      refine (callsIn_wide.2 hno).mono ?_
      rintro e w2 ⟨rfl, hb2⟩
      have HB3 := Lib.hid (hb2.alloc hb2.size (.cells #[.int .i64 0, .int .i64 0, .int .i64 0, .int .i64 0] 45))
      clear hb2 hno
      gi_wp2_with fail
      refine ⟨fun f e => (by cases e), ?_⟩
      gi_wp2_with fail
      refine bodyPost_ret (results_none rfl _ _ _) rfl ?_
      exact ⟨⟨_, rfl⟩, .inl ⟨k, ⟨L, ⟨q, (HB3.out.cell (p := ⟨bx, 0, none⟩) (cell_lt hq)).trans hq, HH.out.below HB3.out⟩, by omega⟩, HS.out _ _ _ HJ.out HB3.out⟩⟩
end Go.Proofs.YtedgchafligndaaGreat
/- The program's List of a queue of jobs: all of them in a row of the call's own; no condition. -/
namespace Go.Proofs.YtedgchafligndaaGreat
open Go.RowKit Go.Shelf Tsk
attribute [local go_sem] Oper.semAt_some

abbrev fL (f : Nat → Jb) (n : Nat) : List Jb := (List.range n).map f
theorem fL_at {f : Nat → Jb} {n k : Nat} {x : Jb} (h : (fL f n)[k]? = some x) : k < n ∧ x = f k := by
  have hk : k < n := by have := (List.getElem?_eq_some_iff.1 h).1; simpa using this
  simp [hk] at h
  exact ⟨hk, h.symm⟩
def JListPost (w : World) (n : Nat) (f : Nat → Jb) (e : Ending) (w' : World) : Prop := ∃ s cap, e = .returned (.slice s n cap) ∧ JobsO w.heap.size w' (.slice s n cap) n f ∧ Below w.heap.size w w'
def JListI (w : World) (q : Option Addr) (n : Nat) (f : Nat → Jb) (k : Nat) (W : World) : Prop :=
  (∃ v, Boxed W w.heap.size 28 v ∧ W.ownsRow w.heap.size JT 4 v k (jbL f k)) ∧ (k ≤ n ∧ Boxed W (w.heap.size + 1) 134 (.pointer q)) ∧ Below w.heap.size w W
theorem jlistI_own (w : World) (q : Option Addr) (n : Nat) (f : Nat → Jb) (B : Nat) (hB : w.heap.size ≤ B) : OwnFrom B (JListI w q n f) := by
  refine OwnFrom.and ?_ (OwnFrom.and ?_ (ownFrom_below (Nat.le_refl _) hB))
  · intro k W W' row ⟨v, hv, ho⟩ hg hr
    have hr' : ∀ r, row = some r → ∃ o : Obj, W.heap[r]? = some o ∧ o.isCells = false := fun r e => (hr r e).2
    refine ⟨v, hv.kept hg (fun e => ?_), ho.kept hg ?_⟩
    · obtain ⟨o, h1, h2⟩ := hr' _ e.symm
      rw [show W.heap[w.heap.size]? = _ from hv] at h1; cases h1; cases h2
    · cases hs : v.ownBlock with
      | none => exact .inl rfl
      | some g =>
        refine .inr fun e => ?_
        obtain ⟨o, h1, h2⟩ := hr' g e.symm
        rcases ho.2 with ⟨rfl, _⟩ | ⟨g', cap, cur, rfl, _, hgg, _⟩
        · simp [Value.ownBlock] at hs
        · simp [Value.ownBlock] at hs
          subst hs
          rw [hgg] at h1; cases h1; cases h2
  · intro k W W' row h hg hr
    refine ⟨h.1, h.2.kept hg (fun e => ?_)⟩
    obtain ⟨o, h1, h2⟩ := (hr _ e.symm).2
    rw [show W.heap[w.heap.size + 1]? = _ from h.2] at h1; cases h1; cases h2

set_option maxHeartbeats 2000000 in
set_option maxRecDepth 100000 in
theorem jlist_any (w : World) (q : Option Addr) (n : Nat) (f : Nat → Jb) (h : Holds_J w (.pointer q) (fL f n)) :
    Calls Tryz.prog 78 #[.pointer q] w (JListPost w n f) := by
  obtain ⟨i0, hi, hz0, hz1, hz2⟩ := info_parts Tryz.infJb
  have H := Lib.hid h
  have hl4 : n ≤ 4096 := by have := h.len; simpa using this
  clear h
  refine (callsIn_wide (n := 6)).1 ?_
  refine callsIn_of_wp_marks Tryz.func78 rfl trivial ?_ rfl
  simp only [Tryz.ntmps78, List.size_toArray, List.length_cons, List.length_nil, Nat.reduceAdd, Nat.reduceSub, Array.replicate_succ, Array.replicate_zero, List.push_toArray, List.append_toArray, List.nil_append, List.cons_append]
  refine wpIn_wide.2 ?_
  go_wp2_with fail
  refine (all_J _ q).mono ?_
  rintro e w1 ⟨rfl, rfl⟩
  go_wp2_with fail
  have hB0 : Below w.heap.size w ((w.alloc (.cells #[.slice none 0 0] 28)).alloc (.cells #[.pointer q] 134)) := ((Below.refl _ w).alloc (Nat.le_refl _) _).alloc (by simp) _
  have c1 := Boxed.new (w.alloc (.cells #[.slice none 0 0] 28)) 134 (.pointer q)
  rw [World.size_alloc] at c1
  have c0 := (Boxed.new w 28 (.slice none 0 0)).alloc (.cells #[.pointer q] 134)
  refine wpIn_wide.1 (range_lawG (n := 6) rfl (by omega) (gf := 105) (lb := #[.pointer (some ⟨w.heap.size + 1, 0, none⟩)]) rfl trivial (enters_of Tryz.func105 (by kernel_rfl) rfl)
    (fun _ _ => rfl) (all_iter_J 5 (by omega) (w.heap.size + 1)) (fun k x V h V' row hg hr => ?nx) (fun k V h V' row hg hr => ?en) (JListI w q n f) (fun _ _ => False)
    (jlistI_own w q n f _ (by simp; omega)) (fun _ _ _ _ h _ _ => h) ?rd ⟨⟨_, c0, World.ownsRow_nil _ _ _ _⟩, ⟨Nat.zero_le _, c1⟩, hB0⟩
    ?a1 (fun k x W => W.alloc (.cells #[.int .i64 x.l, .int .i64 x.c, .int .i64 x.a, .int .i64 x.d] 45)) (fun k x W => (Below.refl _ W).alloc (Nat.le_refl _) _) ?assign ?body ?done ?stop)
  case nx =>
    obtain ⟨L', h1, h2⟩ := h
    exact ⟨L', h1.turn hg (fun r e => (hr r e).2), h2⟩
  case en =>
    obtain ⟨L', h1, h2⟩ := h
    exact ⟨L', h1.turn hg (fun r e => (hr r e).2), h2⟩
  case rd => exact fun k V h => ⟨fL f n, _, h.2.1.2.cell, H.out.below h.2.2⟩
  case assign =>
    intro l k x W K hK
    unfold encs_J
    gi_wp2
    exact hK
  case body =>
    rintro l k x V W hat ⟨⟨v, hv, ho⟩, ⟨hk, hc⟩, hB⟩ ⟨L', hL', hx⟩
    obtain rfl := hL'.uniq ⟨_, hc.cell, H.out.below hB⟩
    obtain ⟨hkl, hxe⟩ := fL_at hx
    have hbk := (hat V.heap.size (Nat.le_refl _)).trans (heap_alloc_new V (.cells #[.int .i64 x.l, .int .i64 x.c, .int .i64 x.a, .int .i64 x.d] 45))
    have q0 : W.cell? ⟨V.heap.size, 0, none⟩ = some (.int .i64 x.l) := (cell_of_row _ _ _ _ _ _ hbk).trans rfl
    have q1 : W.cell? ⟨V.heap.size, 1, none⟩ = some (.int .i64 x.c) := (cell_of_row _ _ _ _ _ _ hbk).trans rfl
    have q2 : W.cell? ⟨V.heap.size, 2, none⟩ = some (.int .i64 x.a) := (cell_of_row _ _ _ _ _ _ hbk).trans rfl
    have q3 : W.cell? ⟨V.heap.size, 3, none⟩ = some (.int .i64 x.d) := (cell_of_row _ _ _ _ _ _ hbk).trans rfl
    have hvl := lt_of_block hbk
    have hvc := hv.cell
    have hvf := hv.frozen
    have hle := hv.lt
    have HT := Lib.hid (show jbL f (k + 1) = jbL f k ++ [.int .i64 x.l, .int .i64 x.c, .int .i64 x.a, .int .i64 x.d] from by rw [hxe]; exact jbL_succ f k)
    have HC := Lib.hid hc
    have hlt := hc.lt
    have HL' := Lib.hid hL'
    have HO := Lib.hid ho
    have HV := Lib.hid hv
    have HB := Lib.hid hB
    clear hx hL' ho hv hB hc c1 c0 hB0 hat hbk hxe
    gi_wp2_with (gi_at_builtin; refine wpListIn_append_own _ rfl _ _ 28 rfl w.heap.size JT i0 (.agg #[.int .i64 0, .int .i64 0, .int .i64 0, .int .i64 0]) 4 32 Tryz.underlying28 hi hz0 hz1 hz2 rfl (by decide) _ _ _ rfl (HO.out.alloc _) ⟨W.heap.size, 0, none⟩ 1 1 [.int .i64 x.l, .int .i64 x.c, .int .i64 x.a, .int .i64 x.d] rfl rfl (World.news_of_block (heap_alloc_new _ _)) (by simp [Value.oneCell']) (by unfold maxLen; omega) (by omega) (by have := HB.out.size; simp; omega) ?_; intro v' w1 hown' hgrow _; obtain ⟨g', cap', rfl⟩ := ownsRow_succ hown'; obtain ⟨hv1, hv2, hr2, hk2, hb2⟩ := HV.out.appended (by decide) HO.out HB.out.size (Nat.le_refl _) hown' hgrow; have hc1 := hv1.cell; have hf1 := hv1.frozen)
    have hca := HC.out.alloc (.cells #[.int .i64 x.l, .int .i64 x.c, .int .i64 x.a, .int .i64 x.d] 45)
    have hbx := (hca.kept hgrow (Boxed.not_row hca (by decide) (HO.out.alloc (.cells #[.int .i64 x.l, .int .i64 x.c, .int .i64 x.a, .int .i64 x.d] 45)))).other (B' := w.heap.size) (by omega) (.slice (some ⟨g', 0, none⟩) (k + 1) cap')
    exact ⟨hk2.from _, ⟨_, hv2, by rw [HT.out]; exact hr2⟩, ⟨by omega, hbx⟩, HB.out.trans hb2⟩
  case done =>
    rintro D k W hD ⟨L', hL', hlen⟩ ⟨⟨v, hv, ho⟩, ⟨hk, hc⟩, hB⟩ hK
    obtain rfl := hL'.uniq ⟨_, hc.cell, H.out.below hB⟩
    obtain rfl : k = n := by simp at hlen; omega
    have hvc := hv.cell
    have HO := Lib.hid ho
    have HB := Lib.hid hB
    have HL' := Lib.hid hL'
    clear hL' ho hv hB c1 c0 hB0
    go_wp2_with fail
    refine ⟨by simp, .inl ⟨_, _, rfl, run_takeDeferred hK, ?_⟩⟩
    obtain ⟨p', cap', hvs, _⟩ := own_small HO.out
    exact ⟨_, results_tmp rfl _ _ _, p', cap', by rw [hvs]; rfl, hvs ▸ ownsRow_putObj HO.out _ hK rfl, HB.out.trans (belowK_b (w := w) (Nat.le_refl _) W D _ _ (by simp at hD; omega) hK rfl rfl)⟩
  case stop =>
    rintro D c W _ h _
    exact h.elim
end Go.Proofs.YtedgchafligndaaGreat
/- A queue of jobs told by a function of the place: New, Push, Head, Put, Pop, List; no condition but those that each row names. -/
namespace Go.Proofs.YtedgchafligndaaGreat
open Go.RowKit Go.Shelf Tsk

abbrev jW (x : Jb) : Value := .agg #[.int .i64 x.l, .int .i64 x.c, .int .i64 x.a, .int .i64 x.d]
theorem fL_len (f : Nat → Jb) (n : Nat) : (fL f n).length = n := by simp
theorem fL_succ (f : Nat → Jb) (n : Nat) : fL f (n + 1) = fL f n ++ [f n] := by simp [fL, List.range_succ]
theorem fL_get {f : Nat → Jb} {n i : Nat} (h : i < n) : (fL f n)[i]? = some (f i) := by simp [h]
theorem fL_put (f : Nat → Jb) (n : Nat) (x : Jb) : (fL f n).set 0 x = fL (fun j => if j = 0 then x else f j) n := by
  apply List.ext_getElem?
  intro i
  by_cases hi : i < n
  · rw [fL_get hi]
    by_cases h0 : i = 0
    · subst h0; rw [List.getElem?_set_self (by rw [fL_len]; exact hi), if_pos rfl]
    · rw [List.getElem?_set_ne (fun e => h0 e.symm), fL_get hi, if_neg h0]
  · rw [List.getElem?_eq_none (by rw [List.length_set, fL_len]; omega), List.getElem?_eq_none (by rw [fL_len]; omega)]
theorem fL_tail (f : Nat → Jb) (n : Nat) : (fL f n).eraseIdx 0 = fL (fun i => f (i + 1)) (n - 1) := by
  rw [List.eraseIdx_zero]
  apply List.ext_getElem?
  intro i
  rw [List.getElem?_tail]
  by_cases hi : i + 1 < n
  · rw [fL_get hi, fL_get (by omega)]
  · rw [List.getElem?_eq_none (by rw [fL_len]; omega), List.getElem?_eq_none (by rw [fL_len]; omega)]

/-- A queue of n jobs: its blocks are newer than the world w. -/
structure QJ (w : World) (b : Nat) (s : Value) (n : Nat) (f : Nat → Jb) (z : Int) (wr : World) : Prop where
  ex : ∃ A : Qu, PQ QT_J ET_J 4 w.heap.size wr A b s ∧ A.Good 4 ∧ A.limit = 8 ∧ A.last = z ∧ A.l.map (·.1) = (fL f n).map jW
  below : Below w.heap.size w wr
theorem QJ.turn {w wr w' : World} {b n : Nat} {s : Value} {f : Nat → Jb} {z : Int} (h : QJ w b s n f z wr) (hb : Below wr.heap.size wr w') : QJ w b s n f z w' := by
  obtain ⟨⟨A, h1, h2⟩, h3⟩ := h
  exact ⟨⟨A, h1.below hb, h2⟩, bnext h3 hb⟩
theorem QJ.lt {w wr : World} {b n : Nat} {s : Value} {f : Nat → Jb} {z : Int} (h : QJ w b s n f z wr) : b < wr.heap.size ∧ ∀ g, s.ownBlock = some g → g < wr.heap.size := by
  obtain ⟨⟨A, h1, h2⟩, h3⟩ := h
  exact ⟨h1.lt, fun g e => (h1.own.lt g e).2⟩
theorem QJ.holds {w wr : World} {b n : Nat} {s : Value} {f : Nat → Jb} {z : Int} (h : QJ w b s n f z wr) : Holds_J wr (.pointer (some ⟨b, 0, none⟩)) (fL f n) := by
  obtain ⟨⟨A, h1, h2, _, _, h4⟩, h3⟩ := h
  exact .inr ⟨_, b, s, A, rfl, h1, h2, h4⟩
theorem QJ.len {A : Qu} {f : Nat → Jb} {n : Nat} (h : A.l.map (·.1) = (fL f n).map jW) : A.l.length = n := by
  have := congrArg List.length h; simpa using this
theorem QJ.n8 {w wr : World} {b n : Nat} {s : Value} {f : Nat → Jb} {z : Int} (h : QJ w b s n f z wr) : n ≤ 8 := by
  obtain ⟨⟨A, h1, h2, h5, _, h4⟩, h3⟩ := h
  have := QJ.len h4; have := h2.len; omega
theorem below_of_keeps {w wr w' : World} {S : Nat → Prop} (hb : Below w.heap.size w wr) (hk : Keeps S wr w') (hS : ∀ x, S x → w.heap.size ≤ x) : Below w.heap.size w w' :=
  hb.trans (hk.below hb.size hS)
theorem qnew (w : World) : Calls Tryz.prog 89 #[.int .i64 8] w fun e w' => e = .returned (.tuple #[.pointer (some ⟨w.heap.size, 0, none⟩), .nilIface]) ∧ QJ w w.heap.size (.slice none 0 0) 0 (fun _ => ⟨0, 0, 0, 0⟩) 0 w' :=
  (new_yes_J w 8 (by omega) (by omega)).mono fun e w' ⟨he, hw⟩ => ⟨he, by
    subst hw
    exact ⟨⟨⟨8, [], 0⟩, PQ.new (Nat.le_refl _) 8, good_new (by omega) (by omega), rfl, rfl, rfl⟩, (Below.refl _ _).alloc (Nat.le_refl _) _⟩⟩
theorem QJ.congr {w wr : World} {b n : Nat} {s : Value} {f g : Nat → Jb} {z : Int} (h : QJ w b s n f z wr) (e : ∀ i, i < n → f i = g i) : QJ w b s n g z wr := by
  obtain ⟨⟨A, h1, h2, h5, h6, h4⟩, h3⟩ := h
  refine ⟨⟨A, h1, h2, h5, h6, h4.trans ?_⟩, h3⟩
  congr 1
  simp only [fL]
  exact List.map_congr_left fun i hi => e i (by simpa using hi)
theorem qpush (w wr : World) (b n : Nat) (s : Value) (f : Nat → Jb) (z : Int) (h : QJ w b s n f z wr) (x : Jb) (hn : n < 8) (hz : z < 1000) :
    Calls Tryz.prog 77 #[.pointer (some ⟨b, 0, none⟩), jW x] wr fun e w' => e = .returned .nilIface ∧ ∃ s', QJ w b s' (n + 1) (upd f n x) (z + 1) w' := by
  obtain ⟨⟨A, h1, h2, h5, h6, h4⟩, h3⟩ := h
  have hl := QJ.len h4
  refine (push_yes_J w.heap.size A h2 wr b s h1 x (by omega) (by omega) h3.size).mono ?_
  rintro e w' ⟨rfl, s', hp, hk, _⟩
  refine ⟨rfl, s', ⟨_, hp, good_push_J h2 x (by omega), h5, by rw [← h6]; rfl, ?_⟩, below_of_keeps h3 hk ?_⟩
  · rw [fL_succ, upd_same, List.map_append, show fL (upd f n x) n = fL f n from List.map_congr_left fun i hi => upd_ne x (by simp at hi; omega), ← h4]
    simp [Qu.push]
  · rintro y (rfl | e)
    · exact h1.hb
    · exact (h1.own.lt y e).1
theorem qpush_full (w wr : World) (b n : Nat) (s : Value) (f : Nat → Jb) (z : Int) (h : QJ w b s n f z wr) (x : Jb) (h8 : 8 ≤ n) :
    Calls Tryz.prog 77 #[.pointer (some ⟨b, 0, none⟩), jW x] wr fun e w' => e = .returned (errV 40) ∧ Below wr.heap.size wr w' := by
  obtain ⟨⟨A, h1, h2, h5, h6, h4⟩, h3⟩ := h
  have hl := QJ.len h4
  exact push_no_J 4 _ A h2 wr b s h1 x (by omega)
set_option maxHeartbeats 400000 in
theorem qhead (w wr : World) (b n : Nat) (s : Value) (f : Nat → Jb) (z : Int) (h : QJ w b s n f z wr) (hn : 0 < n) :
    Calls Tryz.prog 93 #[.pointer (some ⟨b, 0, none⟩)] wr fun e w' => e = .returned (.tuple #[jW (f 0), .bool true]) ∧ Below wr.heap.size wr w' := by
  have hb0 : Below wr.heap.size wr (wr.alloc (.cells #[.int .i64 0, .int .i64 0, .int .i64 0, .int .i64 0] JT)) := (Below.refl _ wr).alloc (Nat.le_refl _) _
  have HC := Lib.hid (at_holds_yes_J _ _ _ (h.turn hb0).holds 0 (f 0) (fL_get hn))
  have HB := Lib.hid hb0
  have H0 := Lib.hid (has_new wr (.cells #[.int .i64 0, .int .i64 0, .int .i64 0, .int .i64 0] JT) _ rfl)
  generalize f 0 = x at *
  clear h hb0
  go_enter Tryz.func93, Tryz.ntmps93
  go_wp2_with fail
  refine HC.out.mono ?_
  rintro e w1 ⟨rfl, hb1⟩
  have hj : HasJ0 w1 wr.heap.size ⟨0, 0, 0, 0⟩ := (hb1.block _ (by simp)).trans H0.out
  obtain ⟨y0, y1, y2, y3⟩ := hj.cells
  have yf := fun j => has_free hj j
  have HB1 := Lib.hid (bnext HB.out hb1)
  clear hb1 hj
  go_wp2_with fail
  refine bodyPost_ret (v := .tuple #[jW x, .bool true]) (by simp [results, Tryz.results93, go_sem, y0, y1, y2, y3]) rfl ⟨rfl, ?_⟩
  iterate 4 refine Below.setCell (B := wr.heap.size) ?_ (by exact Nat.le_refl _) _
  exact HB1.out
theorem QJ.at0 {A : Qu} {f : Nat → Jb} {n : Nat} (h : A.l.map (·.1) = (fL f n).map jW) (h0 : 0 < A.l.length) (hn : 0 < n) : A.l[0].1 = jW (f 0) := by
  have e := congrArg (fun l => l[0]?) h
  simp only [List.getElem?_map, fL_get hn, List.getElem?_eq_getElem h0, Option.map_some, Option.some.injEq] at e
  exact e
theorem qput (w wr : World) (b n : Nat) (s : Value) (f : Nat → Jb) (z : Int) (h : QJ w b s n f z wr) (x : Jb) (hn : 0 < n) (hz : z < 1000) :
    Calls Tryz.prog 95 #[.pointer (some ⟨b, 0, none⟩), .int .i64 0, jW x] wr fun e w' => e = .returned .nilIface ∧ QJ w b s n (upd f 0 x) (z + 1) w' ∧ Keeps (fun y => y = b ∨ s.ownBlock = some y) wr w' := by
  obtain ⟨⟨A, h1, h2, h5, h6, h4⟩, h3⟩ := h
  have hl := QJ.len h4
  refine (put_yes w.heap.size A h2 wr b s h1 0 (by omega) x (by omega)).mono ?_
  rintro e w' ⟨rfl, hp, hk⟩
  refine ⟨rfl, ⟨⟨_, hp, good_put h2 x, h5, by rw [← h6]; rfl, ?_⟩, below_of_keeps h3 hk ?_⟩, hk⟩
  · have e := fL_put f n x
    unfold upd
    rw [← e, List.map_set, ← h4]
    simp [Qu.put]
  · rintro y (rfl | e)
    · exact h1.hb
    · exact (h1.own.lt y e).1
theorem qpop (w wr : World) (b n : Nat) (s : Value) (f : Nat → Jb) (z : Int) (h : QJ w b s n f z wr) (hn : 0 < n) :
    Calls Tryz.prog 97 #[.pointer (some ⟨b, 0, none⟩)] wr fun e w' => e = .returned (.tuple #[jW (f 0), .nilIface]) ∧ ∃ s', QJ w b s' (n - 1) (fun i => f (i + 1)) z w' ∧ Keeps (fun y => y = b ∨ s.ownBlock = some y) wr w' := by
  obtain ⟨⟨A, h1, h2, h5, h6, h4⟩, h3⟩ := h
  have hl := QJ.len h4
  have hb0 : Below wr.heap.size wr (wr.alloc (.cells #[.int .i64 0, .int .i64 0, .int .i64 0, .int .i64 0] JT)) := (Below.refl _ wr).alloc (Nat.le_refl _) _
  refine (pop_of_J w.heap.size (A.drop 0) (f 0) wr b s A h1 (fun w1 hw1 => drop_yes_J w.heap.size A h2 w1 b s hw1 0 (by omega) (f 0) (QJ.at0 h4 (by omega) hn))).mono ?_
  rintro e w' ⟨rfl, s', hp, hk, _⟩
  refine ⟨rfl, s', ⟨⟨_, hp, h2.drop 0, h5, h6, ?_⟩, below_of_keeps h3 hk ?_⟩, hk⟩
  · have e := fL_tail f n
    rw [← e]
    have := congrArg (fun l => l.eraseIdx 0) h4
    simp only [List.eraseIdx_zero] at this ⊢
    rw [List.map_tail, ← this]
    simp [Qu.drop, List.map_tail]
  · rintro y (rfl | e)
    · exact h1.hb
    · exact (h1.own.lt y e).1
theorem qlist (w wr : World) (b n : Nat) (s : Value) (f : Nat → Jb) (z : Int) (h : QJ w b s n f z wr) :
    Calls Tryz.prog 78 #[.pointer (some ⟨b, 0, none⟩)] wr (JListPost wr n f) := jlist_any wr _ n f h.holds
end Go.Proofs.YtedgchafligndaaGreat
/- The document's own task: within, job, New, Ready, Valid; no condition but those that each row names. -/
namespace Go.Proofs.YtedgchafligndaaGreat
open Go.RowKit Tsk

theorem rwithin (n m : Int) (w : World) : Calls Tryz.prog 57 #[.int .i64 n, .int .i64 m] w fun e w' => e = .returned (.bool (decide (0 ≤ n ∧ n ≤ m))) ∧ w = w' := by
  by_cases h1 : 0 ≤ n
  · by_cases h2 : n ≤ m
    · have h3 : decide (0 ≤ n ∧ n ≤ m) = true := decide_eq_true ⟨h1, h2⟩
      rw [h3]
      clear h3
      go_enter Tryz.func57, Tryz.ntmps57
      go_wp2
      go_ret
      exact ⟨rfl, rfl⟩
    · have h3 : decide (0 ≤ n ∧ n ≤ m) = false := decide_eq_false (fun h => h2 h.2)
      rw [h3]
      clear h3
      have h4 : decide (n ≤ m) = false := decide_eq_false h2
      go_enter Tryz.func57, Tryz.ntmps57
      go_wp2
      go_ret
      exact ⟨rfl, rfl⟩
  · have h3 : decide (0 ≤ n ∧ n ≤ m) = false := decide_eq_false (fun h => h1 h.1)
    rw [h3]
    clear h3
    have h4 : decide (0 ≤ n) = false := decide_eq_false h1
    go_enter Tryz.func57, Tryz.ntmps57
    go_wp2
    go_ret
    exact ⟨rfl, rfl⟩
theorem okJ_mk (l c a d : Int) : okJ ⟨l, c, a, d⟩ ↔ (1 ≤ l ∧ l ≤ 1048576) ∧ (0 ≤ c ∧ c ≤ 1048576) ∧ (0 ≤ a ∧ a ≤ 1073741824) ∧ (0 ≤ d ∧ d ≤ 1073741824) := Iff.rfl
set_option maxHeartbeats 1000000 in
theorem rjob (j : Jb) (w : World) : Calls Tryz.prog 58 #[jV j] w fun e w' => e = .returned (.bool (decide (okJ j))) ∧ Below w.heap.size w w' := by
  obtain ⟨l, c, a, d⟩ := j
  have HB := Lib.hid (show Below w.heap.size w (w.alloc (.cells #[.int .i64 l, .int .i64 c, .int .i64 a, .int .i64 d] JT)) from (Below.refl _ _).alloc (Nat.le_refl _) _)
  go_enter Tryz.func58, Tryz.ntmps58
  go_wp2_with (go_at_call 57; refine (rwithin _ _ _).mono ?_; rintro e w1 ⟨rfl, rfl⟩)
  all_goals (go_ret; exact ⟨ret_bool (by first | exact (decide_eq_false (by rw [okJ_mk]; omega)).symm | exact (decide_eq_true (by rw [okJ_mk]; omega)).symm | (have e : okJ ⟨l, c, a, d⟩ ↔ (0 ≤ d ∧ d ≤ 1073741824) := (by rw [okJ_mk]; omega)); simp [e]), HB.out⟩)
theorem rnew_ok (p : Int) (w : World) (h : 0 ≤ p ∧ p ≤ 31) : Calls Tryz.prog 69 #[.int .i64 p] w fun e w' => e = .returned (.tuple #[tV p (.slice none 0 0) ⟨0, 0, 0, 0, 0, 0⟩, .int .i64 0]) ∧ Below w.heap.size w w' := by
  obtain ⟨h1, h2⟩ := h
  go_enter Tryz.func69, Tryz.ntmps69
  go_wp2
  exact bodyPost_ret (v := .tuple #[tV p (.slice none 0 0) ⟨0, 0, 0, 0, 0, 0⟩, .int .i64 0]) (by simp [results, Tryz.results69, go_sem]) rfl ⟨rfl, (by repeat (first | exact Below.refl _ _ | (with_reducible assumption) | refine Below.drew ?_ | (refine Below.alloc ?_ (by first | exact Nat.le_refl _ | omega | (simp; done) | (simp; omega)) _) | (refine Below.setCell ?_ (by first | omega | (simp; done) | (simp; omega)) _)))⟩
theorem rnew_no (p : Int) (w : World) (h : ¬ (0 ≤ p ∧ p ≤ 31)) : Calls Tryz.prog 69 #[.int .i64 p] w fun e w' => e = .returned (.tuple #[tV 0 (.slice none 0 0) ⟨0, 0, 0, 0, 0, 0⟩, .int .i64 2]) ∧ Below w.heap.size w w' := by
  by_cases h1 : p < 0
  · clear h
    go_enter Tryz.func69, Tryz.ntmps69
    go_wp2
    exact bodyPost_ret (v := .tuple #[tV 0 (.slice none 0 0) ⟨0, 0, 0, 0, 0, 0⟩, .int .i64 2]) (by simp [results, Tryz.results69, go_sem]) rfl ⟨rfl, (by repeat (first | exact Below.refl _ _ | (with_reducible assumption) | refine Below.drew ?_ | (refine Below.alloc ?_ (by first | exact Nat.le_refl _ | omega | (simp; done) | (simp; omega)) _) | (refine Below.setCell ?_ (by first | omega | (simp; done) | (simp; omega)) _)))⟩
  · have h2 : 31 < p := by omega
    have h3 : decide (p < 0) = false := decide_eq_false h1
    clear h
    go_enter Tryz.func69, Tryz.ntmps69
    go_wp2
    exact bodyPost_ret (v := .tuple #[tV 0 (.slice none 0 0) ⟨0, 0, 0, 0, 0, 0⟩, .int .i64 2]) (by simp [results, Tryz.results69, go_sem]) rfl ⟨rfl, (by repeat (first | exact Below.refl _ _ | (with_reducible assumption) | refine Below.drew ?_ | (refine Below.alloc ?_ (by first | exact Nat.le_refl _ | omega | (simp; done) | (simp; omega)) _) | (refine Below.setCell ?_ (by first | omega | (simp; done) | (simp; omega)) _)))⟩
theorem rready (p : Int) (s : Option Addr) (n cap : Nat) (k : Ac) (w : World) : Calls Tryz.prog 87 #[tV p (.slice s n cap) k] w fun e w' => e = .returned (.bool (decide (0 < n))) ∧ Below w.heap.size w w' := by
  go_enter Tryz.func87, Tryz.ntmps87
  go_wp2
  go_ret
  exact ⟨rfl, (Below.refl _ _).alloc (Nat.le_refl _) _⟩
/-- A task's block, an account's block. -/
def HasT (W : World) (g : Nat) (p : Int) (s : Value) (k : Ac) : Prop := Has W g (.cells #[.int .i64 p, s, .int .i64 k.g, .int .i64 k.o, .int .i64 k.n, .int .i64 k.d, .int .i64 k.c, .int .i64 k.t] KT (0, 0))
theorem HasT.below {W W' : World} {g : Nat} {p : Int} {s : Value} {k : Ac} (h : HasT W g p s k) (hb : Below W.heap.size W W') : HasT W' g p s k := (hb.block g (has_lt h)).trans h
theorem HasT.cells {W : World} {g : Nat} {p : Int} {s : Value} {k : Ac} (h : HasT W g p s k) :
    W.cell? ⟨g, 0, none⟩ = some (.int .i64 p) ∧ W.cell? ⟨g, 1, none⟩ = some s ∧ W.cell? ⟨g, 2, none⟩ = some (.int .i64 k.g) ∧ W.cell? ⟨g, 3, none⟩ = some (.int .i64 k.o) ∧ W.cell? ⟨g, 4, none⟩ = some (.int .i64 k.n) ∧ W.cell? ⟨g, 5, none⟩ = some (.int .i64 k.d) ∧ W.cell? ⟨g, 6, none⟩ = some (.int .i64 k.c) ∧ W.cell? ⟨g, 7, none⟩ = some (.int .i64 k.t) :=
  ⟨(has_cell h 0).trans rfl, (has_cell h 1).trans rfl, (has_cell h 2).trans rfl, (has_cell h 3).trans rfl, (has_cell h 4).trans rfl, (has_cell h 5).trans rfl, (has_cell h 6).trans rfl, (has_cell h 7).trans rfl⟩
theorem okA_mk (g o n d c t : Int) : okA ⟨g, o, n, d, c, t⟩ ↔ ((0 ≤ g ∧ g ≤ 1073741824) ∧ o = g ∧ n = 0) ∧ (0 ≤ d ∧ d ≤ g) ∧ (0 ≤ c ∧ c ≤ g - d) ∧ (0 ≤ t ∧ t ≤ d + c) := Iff.rfl
theorem ok_no {p : Int} {n : Nat} {f : Nat → Jb} {k : Ac} (h : ¬ okT p n f k) : validE p n f k = 270 := if_neg h
theorem ok_yes {p : Int} {n : Nat} {f : Nat → Jb} {k : Ac} (h : okT p n f k) : validE p n f k = 0 := if_pos h
set_option maxHeartbeats 1000000 in
theorem rvalid (p : Int) (s : Value) (n : Nat) (f : Nat → Jb) (k : Ac) (w : World) (h : Jobs w s n f) : Calls Tryz.prog 26 #[tV p s k] w fun e w' => e = .returned (.int .i64 (validE p n f k)) ∧ Below w.heap.size w w' := by
  have HJ := Lib.hid h
  obtain ⟨q, cap, rfl, hn, _⟩ := h
  obtain ⟨kg, ko, kn, kd, kc, kt⟩ := k
  have HB0 := Lib.hid (show Below w.heap.size w ((w.alloc (.cells #[.int .i64 p, .slice q n cap, .int .i64 kg, .int .i64 ko, .int .i64 kn, .int .i64 kd, .int .i64 kc, .int .i64 kt] KT)).alloc (.cells #[.int .i64 kg, .int .i64 ko, .int .i64 kn, .int .i64 kd, .int .i64 kc, .int .i64 kt] 30)) from ((Below.refl _ _).alloc (Nat.le_refl _) _).alloc (by simp) _)
  by_cases hp : 0 ≤ p ∧ p ≤ 31
  · by_cases hn8 : n ≤ 8
    · have hn8' : (n : Int) ≤ 8 := by omega
      have hn8b : decide ((8 : Int) < (n : Int)) = false := decide_eq_false (by omega)
      have hn8c : decide (8 < n) = false := decide_eq_false (by omega)
      go_enter Tryz.func26, Tryz.ntmps26
      go_wp2_with (go_at_call 57; refine (rwithin _ _ _).mono ?_; rintro e w1 ⟨rfl, rfl⟩; rw [decide_eq_true hp])
      have HT0 := Lib.hid (show HasT ((w.alloc (.cells #[.int .i64 p, .slice q n cap, .int .i64 kg, .int .i64 ko, .int .i64 kn, .int .i64 kd, .int .i64 kc, .int .i64 kt] KT)).alloc (.cells #[.int .i64 kg, .int .i64 ko, .int .i64 kn, .int .i64 kd, .int .i64 kc, .int .i64 kt] 30)) w.heap.size p (.slice q n cap) ⟨kg, ko, kn, kd, kc, kt⟩ ∧ Has ((w.alloc (.cells #[.int .i64 p, .slice q n cap, .int .i64 kg, .int .i64 ko, .int .i64 kn, .int .i64 kd, .int .i64 kc, .int .i64 kt] KT)).alloc (.cells #[.int .i64 kg, .int .i64 ko, .int .i64 kn, .int .i64 kd, .int .i64 kc, .int .i64 kt] 30)) (w.heap.size + 1) (.cells #[.int .i64 kg, .int .i64 ko, .int .i64 kn, .int .i64 kd, .int .i64 kc, .int .i64 kt] 30 (0, 0)) from ⟨has_old (has_new w _ _ rfl) _, has_new _ _ _ (by simp)⟩)
      generalize ((w.alloc (.cells #[.int .i64 p, .slice q n cap, .int .i64 kg, .int .i64 ko, .int .i64 kn, .int .i64 kd, .int .i64 kc, .int .i64 kt] KT)).alloc (.cells #[.int .i64 kg, .int .i64 ko, .int .i64 kn, .int .i64 kd, .int .i64 kc, .int .i64 kt] 30)) = W at *
      go_loopw [4] (fun iv wr => ∃ k : Nat, iv = .int .i64 k ∧ k ≤ n ∧ Hid (∀ j, j < k → okJ (f j)) ∧ Hid (Below W.heap.size W wr)) (fun iv _ => n - (intOf iv).toNat)
      case atStart => exact ⟨0, rfl, Nat.zero_le _, Lib.hid (fun j hj => by omega), Lib.hid (Below.refl _ _)⟩
      case round =>
        obtain ⟨k, rfl, hk, HO, HB⟩ := hrel
        have HBw := Lib.hid (bnext HB0.out HB.out)
        obtain ⟨_, c1, _⟩ := (HT0.out.1.below HB.out).cells
        by_cases hkn : k < n
        · have hkn' : (k : Int) < (n : Int) := by omega
          obtain ⟨q', cap', e, _, hcl⟩ := HJ.out.below HBw.out
          cases e
          obtain ⟨b, off, rfl, d0, d1, d2, d3⟩ := hcl k hkn
          clear hcl
          have HRJ := Lib.hid (rjob (f k))
          by_cases hok : okJ (f k)
          · have HO2 := Lib.hid (show ∀ j, j < k + 1 → okJ (f j) from fun j hj => by
              rcases Nat.lt_succ_iff_lt_or_eq.1 hj with h | h
              · exact HO.out j h
              · rw [h]; exact hok)
            rw [decide_eq_true hok] at HRJ
            generalize f k = jb at *
            obtain ⟨jl, jc, ja, jd⟩ := jb
            clear hok
            go_wp2_with fail
            refine (HRJ.out _).mono ?_
            rintro e w2 ⟨rfl, hb2⟩
            have HB2 := Lib.hid (bnext HB.out hb2)
            clear hb2
            go_wp2_with fail
            go_roundw
            case rel => exact ⟨k + 1, by go_num, by omega, HO2, HB2⟩
            case measure => simp [intOf]; omega
          · have hE := ok_no (p := p) (n := n) (f := f) (k := ⟨kg, ko, kn, kd, kc, kt⟩) (fun h => hok (h.2.2.1 k hkn))
            have HE := Lib.hid hE
            rw [decide_eq_false hok] at HRJ
            generalize f k = jb at *
            obtain ⟨jl, jc, ja, jd⟩ := jb
            clear hok hE
            go_wp2_with fail
            refine (HRJ.out _).mono ?_
            rintro e w2 ⟨rfl, hb2⟩
            have HB2 := Lib.hid (bnext HBw.out hb2)
            clear hb2
            go_wp2_with fail
            go_ret
            exact ⟨ret_int HE.out.symm, HB2.out⟩
        · have hg3 : decide (k < n) = false := decide_eq_false hkn
          have hA := (HB.out.block _ (has_lt HT0.out.2)).trans HT0.out.2
          have a0 : wr.cell? ⟨w.heap.size + 1, 0, none⟩ = some (.int .i64 kg) := (has_cell hA 0).trans rfl
          have a1 : wr.cell? ⟨w.heap.size + 1, 1, none⟩ = some (.int .i64 ko) := (has_cell hA 1).trans rfl
          have a2 : wr.cell? ⟨w.heap.size + 1, 2, none⟩ = some (.int .i64 kn) := (has_cell hA 2).trans rfl
          have a3 : wr.cell? ⟨w.heap.size + 1, 3, none⟩ = some (.int .i64 kd) := (has_cell hA 3).trans rfl
          have a4 : wr.cell? ⟨w.heap.size + 1, 4, none⟩ = some (.int .i64 kc) := (has_cell hA 4).trans rfl
          have a5 : wr.cell? ⟨w.heap.size + 1, 5, none⟩ = some (.int .i64 kt) := (has_cell hA 5).trans rfl
          clear hA
          by_cases ha : okA ⟨kg, ko, kn, kd, kc, kt⟩
          · have HV := Lib.hid (show validE p n f ⟨kg, ko, kn, kd, kc, kt⟩ = 0 from if_pos ⟨hp, hn8, fun i hi => HO.out i (by omega), ha⟩)
            obtain ⟨⟨b1, rfl, rfl⟩, b2, b3, b4⟩ := (okA_mk _ _ _ _ _ _).1 ha
            have w1 : IntKind.i64.wrap (ko - kd) = ko - kd := IntWalk.i64_in _ (by omega)
            have w2 : IntKind.i64.wrap (kd + kc) = kd + kc := IntWalk.i64_in _ (by omega)
            clear hkn ha
            go_wp2_with (go_at_call 57; refine (rwithin _ _ _).mono ?_; rintro e w1 ⟨rfl, rfl⟩; rw [decide_eq_true (by assumption)])
            go_ret
            exact ⟨ret_int HV.out.symm, HBw.out⟩
          · have HV := Lib.hid (show validE p n f ⟨kg, ko, kn, kd, kc, kt⟩ = 270 from if_neg fun h => ha h.2.2.2)
            rw [okA_mk] at ha
            have HA := Lib.hid ha
            clear hkn ha
            by_cases z0 : kn = 0
            · subst z0
              go_wp2_with (go_at_call 57; refine (rwithin _ _ _).mono ?_; rintro e w1 ⟨rfl, rfl⟩)
              all_goals (first | (go_ret; exact ⟨ret_int HV.out.symm, HBw.out⟩) | (rename_i hx; simp only [Bool.not_eq_false', decide_eq_true_eq] at hx; exfalso; have h5 := HA.out; simp only [and_true] at h5; omega))
            · have z1 : (kn != 0) = true := by simpa using z0
              clear z0
              go_wp2_with (go_at_call 57; refine (rwithin _ _ _).mono ?_; rintro e w1 ⟨rfl, rfl⟩)
              all_goals (go_ret; exact ⟨ret_int HV.out.symm, HBw.out⟩)
    · have hE := ok_no (p := p) (n := n) (f := f) (k := ⟨kg, ko, kn, kd, kc, kt⟩) (fun h => hn8 h.2.1)
      rw [hE]
      have hn8' : (8 : Int) < (n : Int) := by omega
      clear hE hn8
      go_enter Tryz.func26, Tryz.ntmps26
      go_wp2_with (go_at_call 57; refine (rwithin _ _ _).mono ?_; rintro e w1 ⟨rfl, rfl⟩; rw [decide_eq_true hp])
      go_ret
      exact ⟨rfl, HB0.out⟩
  · have hE := ok_no (p := p) (n := n) (f := f) (k := ⟨kg, ko, kn, kd, kc, kt⟩) (fun h => hp h.1)
    rw [hE]
    clear hE
    go_enter Tryz.func26, Tryz.ntmps26
    go_wp2_with (go_at_call 57; refine (rwithin _ _ _).mono ?_; rintro e w1 ⟨rfl, rfl⟩; rw [decide_eq_false hp])
    go_ret
    exact ⟨rfl, HB0.out⟩
end Go.Proofs.YtedgchafligndaaGreat
/- The document's own task: Work, Wait; no condition but those that each row names. -/
namespace Go.Proofs.YtedgchafligndaaGreat
open Go.RowKit Tsk

/-- How many ticks a job can still be given. -/
def need (j : Jb) : Int := if 0 < j.c ∧ j.c < j.l then j.c else j.l
def workS (f : Nat → Jb) : Nat → Int
  | 0 => 0
  | n + 1 => workS f n + need (f n)
theorem workS_le {f : Nat → Jb} : ∀ {n : Nat}, (∀ i, i < n → okJ (f i)) → 0 ≤ workS f n ∧ workS f n ≤ n * 1048576
  | 0, _ => by simp [workS]
  | n + 1, h => by
    have ih := workS_le (f := f) (n := n) (fun i hi => h i (by omega))
    obtain ⟨⟨l1, l2⟩, _⟩ := h n (by omega)
    have h2 : 0 ≤ need (f n) ∧ need (f n) ≤ 1048576 := by unfold need; split <;> omega
    simp only [workS]
    omega
end Go.Proofs.YtedgchafligndaaGreat
/- What an append of jobs makes; no condition but those that each row names. -/
namespace Go.Proofs.YtedgchafligndaaGreat
open Go.RowKit Tsk

/-- What is appended: m jobs, their cells. -/
def SrcJ (w : World) (u : Value) (m : Nat) (ys : List Value) : Prop := ∃ p cap, u = .slice p m cap ∧ ys.length = m * 4 ∧ ∀ j y, ys[j]? = some y → ∃ b off, p = some ⟨b, off, none⟩ ∧ w.cell? ⟨b, off + j, none⟩ = some y
theorem run_append_jobs (w : World) (ty : TypeId) (base : Nat) (v : Value) (n : Nat) (xs : List Value) (hown : w.ownsRow base JT 4 v n xs) (u : Value) (m : Nat) (ys : List Value) (hu : SrcJ w u m ys) (h1 : ∀ u ∈ ys, u.oneCell' = true) (hm : (n + m) * 32 ≤ 140737488355328) (hbase : base ≤ w.heap.size) :
    ∃ p cap w', (Builtin.append_ #[28, 28] ty #[v, u]).run Tryz.prog w = .ok (.slice p (n + m) cap) w' ∧ w'.ownsRow base JT 4 (.slice p (n + m) cap) (n + m) (xs ++ ys) ∧ w.grownBy w' v.ownBlock ∧
      (∀ g, (Value.slice p (n + m) cap).ownBlock = some g → v.ownBlock = some g ∨ w.heap.size ≤ g) := by
  obtain ⟨i0, hi, hz0, hz1, hz2⟩ := info_parts Tryz.infJb
  obtain ⟨p, cap, rfl, hl, hc⟩ := hu
  cases m with
  | zero =>
    obtain rfl : ys = [] := List.eq_nil_of_length_eq_zero (by omega)
    obtain ⟨p', cap', rfl, hle⟩ := own_small hown
    refine ⟨p', cap', w, ?_, by simpa using hown, ⟨rfl, rfl, rfl, Nat.le_refl _, fun _ _ _ => rfl⟩, fun g e => .inl e⟩
    refine run_append_nothing w 28 28 ty JT i0 Tryz.underlying28 hi p' n cap' hle _ ?_
    cases p with
    | none => exact Src.ofNil w Tryz.underlying28 cap
    | some a => exact Src.ofSlice w Tryz.underlying28 a 0 cap [] (by simp) (fun j u hj => by simp at hj) (fun u hu => by simp at hu)
  | succ m =>
    obtain ⟨y, hy⟩ : ∃ y, ys[0]? = some y := ⟨_, List.getElem?_eq_getElem (by omega)⟩
    obtain ⟨b, off, rfl, _⟩ := hc 0 y hy
    obtain ⟨g, cap', w', hr, ho, hg, hat, hlt⟩ := run_append_lies (P := Tryz.prog) (w := w) 28 ty base JT i0 (.agg #[.int .i64 0, .int .i64 0, .int .i64 0, .int .i64 0]) 4 32 Tryz.underlying28 hi hz0 hz1 hz2 rfl (by decide) v n xs hown ⟨b, off, none⟩ (m + 1) cap ys hl
      (fun j u hj => by
        obtain ⟨b', off', e, hcell⟩ := hc j u hj
        cases e
        have hadd : (⟨b, off, none⟩ : Addr).add j = ⟨b, off + j, none⟩ := by unfold Addr.add; split <;> simp_all
        rw [hadd]; exact hcell) h1 (by omega) (by unfold maxLen; omega) (by omega) hbase _ rfl
    refine ⟨_, _, w', hr, ho, hg, fun g' e => ?_⟩
    simp [Value.ownBlock] at e
    subst e
    rcases hat with e | e
    · exact .inl e
    · exact .inr (by omega)
theorem wpList_append_jobs {w : World} {ops : Array Oper} {rest : List Oper} {o : Oper} {a : Act} {Q : Exit → Act → World → Prop} (hgd : o.guard = none) (s x : Operand)
    (ho : o.op = .call { callee := .builtin .append, args := #[s, x], argTypes := #[28, 28] })
    (base : Nat) (v : Value) (n : Nat) (xs : List Value) (hs : a.eval s = v) (hown : w.ownsRow base JT 4 v n xs) (u : Value) (m : Nat) (ys : List Value) (hx : a.eval x = u) (hu : SrcJ w u m ys) (h1 : ∀ u ∈ ys, u.oneCell' = true) (hm : (n + m) * 32 ≤ 140737488355328) (hbase : base ≤ w.heap.size)
    (h : ∀ p cap w', w'.ownsRow base JT 4 (.slice p (n + m) cap) (n + m) (xs ++ ys) → w.grownBy w' v.ownBlock → (∀ g, (Value.slice p (n + m) cap).ownBlock = some g → v.ownBlock = some g ∨ w.heap.size ≤ g) → wpList Tryz.prog ops Q rest (a.put o.dst (.slice p (n + m) cap)) w') : wpList Tryz.prog ops Q (o :: rest) a w := by
  refine wpList_plain hgd fun K hK => ?_
  obtain ⟨p, cap, w', hr, h2, h3, h4⟩ := run_append_jobs w o.type base v n xs hown u m ys hu h1 hm hbase
  unfold Oper.wp execOp
  simp only [ho, resolve, invoke, builtin, Sem.run_bind, Sem.run_pure, Result.andThen_ok, List.map_toArray, List.map_cons, List.map_nil, hs, hx, hr]
  exact hK _ _ (h p cap w' h2 h3 h4)
/-- A slice that reads as jobs is such a source. -/
theorem src_jobs {w : World} {v : Value} {n : Nat} {f : Nat → Jb} (h : Jobs w v n f) : SrcJ w v n (jbL f n) := by
  obtain ⟨p, cap, rfl, _, hc⟩ := h
  refine ⟨p, cap, rfl, jbL_len f n, fun j y hy => ?_⟩
  have hj : j < n * 4 := by have := (List.getElem?_eq_some_iff.1 hy).1; rwa [jbL_len] at this
  obtain ⟨b, off, e, c0, c1, c2, c3⟩ := hc (j / 4) (by omega)
  refine ⟨b, off, e, ?_⟩
  unfold jbL at hy
  rw [lst_at hj] at hy
  cases hy
  have hr : j % 4 = 0 ∨ j % 4 = 1 ∨ j % 4 = 2 ∨ j % 4 = 3 := by omega
  have hd : j = j / 4 * 4 + j % 4 := by omega
  generalize j / 4 = i at *
  rcases hr with r | r | r | r
  · rw [r] at hd ⊢; rw [hd]; exact c0
  · rw [r] at hd ⊢; rw [hd, ← Nat.add_assoc]; exact c1
  · rw [r] at hd ⊢; rw [hd, ← Nat.add_assoc]; exact c2
  · rw [r] at hd ⊢; rw [hd, ← Nat.add_assoc]; exact c3
/-- One job that lies in a block of its own. -/
theorem src_one (w : World) (j : Jb) (t : TypeId) : SrcJ (w.alloc (.cells #[.int .i64 j.l, .int .i64 j.c, .int .i64 j.a, .int .i64 j.d] t)) (.slice (some ⟨w.heap.size, 0, none⟩) 1 1) 1 [.int .i64 j.l, .int .i64 j.c, .int .i64 j.a, .int .i64 j.d] := by
  refine ⟨_, _, rfl, rfl, fun i y hy => ⟨w.heap.size, 0, rfl, ?_⟩⟩
  rw [Nat.zero_add, has_cell (has_new w (.cells #[.int .i64 j.l, .int .i64 j.c, .int .i64 j.a, .int .i64 j.d] t) _ rfl)]
  simpa using hy
end Go.Proofs.YtedgchafligndaaGreat
/- The document's own task: Twin, Drop, Push; no condition but those that each row names. -/
namespace Go.Proofs.YtedgchafligndaaGreat
open Go.RowKit Tsk

/-- What is answered: a task with jobs of its own. -/
def TaskO (w : World) (p : Int) (n : Nat) (f : Nat → Jb) (k : Ac) (x : Value) (w' : World) : Prop := ∃ s cap, x = tV p (.slice s n cap) k ∧ JobsO w.heap.size w' (.slice s n cap) n f ∧ Below w.heap.size w w'
theorem own_low {B e z n : Nat} {w : World} {v : Value} {xs : List Value} (h : w.ownsRow B e z v n xs) (p : Addr) (u : Value) (hp : p.block < B) : (w.setCell p u).ownsRow B e z v n xs :=
  World.ownsRow.kept (row := some p.block) h (grown_set w p u) (.inr fun e => by have := (World.ownsRow.lt h _ e).1; omega)
theorem below_low {B : Nat} {w a : World} (h : Below B w a) (p : Addr) (u : Value) (hp : B ≤ p.block) : Below B w (a.setCell p u) := h.setCell hp u
set_option maxHeartbeats 1000000 in
theorem rtwin (p : Int) (s : Value) (n : Nat) (f : Nat → Jb) (k : Ac) (w : World) (h : Jobs w s n f) (hn : n * 32 ≤ 140737488355328) : Calls Tryz.prog 5 #[tV p s k] w fun e w' => ∃ x, e = .returned x ∧ TaskO w p n f k x w' := by
  have HJ := Lib.hid h
  obtain ⟨q, cap, rfl, _, _⟩ := h
  obtain ⟨kg, ko, kn, kd, kc, kt⟩ := k
  obtain ⟨WA, hWA⟩ : ∃ WA, WA = (w.alloc (.cells #[.int .i64 p, .slice q n cap, .int .i64 kg, .int .i64 ko, .int .i64 kn, .int .i64 kd, .int .i64 kc, .int .i64 kt] KT)).alloc (.cells #[.int .i64 0, .slice none 0 0, .int .i64 0, .int .i64 0, .int .i64 0, .int .i64 0, .int .i64 0, .int .i64 0] KT) := ⟨_, rfl⟩
  have HB := Lib.hid (show Below w.heap.size w WA from by rw [hWA]; exact ((Below.refl _ _).alloc (Nat.le_refl _) _).alloc (by simp) _)
  have HT := Lib.hid (show HasT WA w.heap.size p (.slice q n cap) ⟨kg, ko, kn, kd, kc, kt⟩ ∧ HasT WA (w.heap.size + 1) 0 (.slice none 0 0) ⟨0, 0, 0, 0, 0, 0⟩ ∧ WA.heap.size = w.heap.size + 2 from by
    rw [hWA]
    exact ⟨has_old (has_new w _ _ rfl) _, has_new _ _ _ (by simp), by simp⟩)
  have HW := Lib.hid hWA
  clear hWA
  go_enter Tryz.func5, Tryz.ntmps5
  go_upto_region 1 with fail
  rw [← HW.out]
  have x1 := HT.out.1.cells.2.1
  go_wp2_with (at_builtin; refine wpList_append_jobs rfl _ _ rfl (w.heap.size + 2) (.slice none 0 0) 0 [] rfl (World.ownsRow_nil _ _ _ _) _ n (jbL f n) rfl (src_jobs (HJ.out.below HB.out)) (jbL_one _ _) (by omega) (by have := HT.out.2.2; omega) ?_)
  intro p2 c2 w3 ho3 hg3 ha3
  have hb3 : Below WA.heap.size WA w3 := below_of_grown hg3
  have HO3 := Lib.hid (show JobsO (w.heap.size + 2) w3 (.slice p2 n c2) n f from by
    try rw [Nat.zero_add] at ho3
    exact ho3)
  have HB3 := Lib.hid (bnext HB.out hb3)
  have HT3 := Lib.hid (show HasT w3 w.heap.size p (.slice q n cap) ⟨kg, ko, kn, kd, kc, kt⟩ ∧ HasT w3 (w.heap.size + 1) 0 (.slice none 0 0) ⟨0, 0, 0, 0, 0, 0⟩ from ⟨HT.out.1.below hb3, HT.out.2.1.below hb3⟩)
  clear x1
  obtain ⟨x0, x1, x2, x3, x4, x5, x6, x7⟩ := HT3.out.1.cells
  obtain ⟨y0, y1, y2, y3, y4, y5, y6, y7⟩ := HT3.out.2.cells
  have f0 : ∀ j, w3.frozen? ⟨w.heap.size, j, none⟩ = false := fun j => has_free HT3.out.1 j
  have f1 : ∀ j, w3.frozen? ⟨w.heap.size + 1, j, none⟩ = false := fun j => has_free HT3.out.2 j
  clear ho3 hg3 ha3 hb3
  go_wp2_with fail
  refine bodyPost_ret (v := tV p (.slice p2 n c2) ⟨kg, ko, kn, kd, kc, kt⟩) (by simp [results, Tryz.results5, go_sem, y0, y1, y2, y3, y4, y5, y6, y7]) rfl ⟨_, rfl, p2, c2, rfl, ?_, ?_⟩
  · refine own_base2 (B := w.heap.size + 2) ?_ (by omega)
    repeat (first | (with_reducible exact HO3.out) | refine own_low ?_ _ _ (by simp))
  · repeat (first | (with_reducible exact HB3.out) | refine below_low ?_ _ _ (by simp))
end Go.Proofs.YtedgchafligndaaGreat
