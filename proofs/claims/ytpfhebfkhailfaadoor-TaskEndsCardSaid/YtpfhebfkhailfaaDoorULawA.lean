/- What the laws' walks share; no condition but those that each row names. -/
import Derived.Test.YtpfhebfkhailfaaDoorUWorks
import Derived.Test.YtpfhebfkhailfaaDoorURun
import Derived.Test.YtpfhebfkhailfaaDoorUPush
namespace Go.Proofs.YtpfhebfkhailfaaDoor
open Go.RowKit Go.Shelf Tsk

theorem same_true (p : Int) (s s' : Value) (n : Nat) (f : Nat → Jb) (k : Ac) (W : World) (h : Jobs W s n f) (h' : Jobs W s' n f) :
    Calls Tryd.prog 12 #[tV p s k, tV p s' k] W fun e w' => e = .returned (.bool true) ∧ Below W.heap.size W w' := by
  have h1 := same_any p s n f k p s' n f k W h h'
  rw [same_yes (fun _ _ => rfl)] at h1
  exact h1
/-- A task's block is new. -/
theorem hasT_new (w : World) (p : Int) (s : Value) (k : Ac) : HasT (w.alloc (.cells #[.int .i64 p, s, .int .i64 k.g, .int .i64 k.o, .int .i64 k.n, .int .i64 k.d, .int .i64 k.c, .int .i64 k.t] KT)) w.heap.size p s k := has_new _ _ _ rfl
/-- A twin, its jobs as they read from then on. -/
theorem twin_j (p : Int) (s : Value) (n : Nat) (f : Nat → Jb) (k : Ac) (w : World) (h : Jobs w s n f) (hn : n * 32 ≤ 140737488355328) : Calls Tryd.prog 20 #[tV p s k] w fun e w' => ∃ t c, e = .returned (tV p (.slice t n c) k) ∧ Jobs w' (.slice t n c) n f ∧ Below w.heap.size w w' :=
  (rtwin p s n f k w h hn).mono fun e w' ⟨x, he, t, c, hx, ho, hb⟩ => ⟨t, c, by rw [he, hx], own_jobs ho (by omega), hb⟩
theorem keepB {W0 w1 w2 : World} (hb : Below w1.heap.size w1 w2) (hB : Below W0.heap.size W0 w1) : (∀ b o, b < W0.heap.size → w2.cell? ⟨b, o, none⟩ = W0.cell? ⟨b, o, none⟩) ∧ Below W0.heap.size W0 w2 :=
  ⟨fun _ _ hlt => (bnext hB hb).cell hlt, bnext hB hb⟩
theorem keepS (W0 : World) : (∀ b o, b < W0.heap.size → W0.drew.cell? ⟨b, o, none⟩ = W0.cell? ⟨b, o, none⟩) ∧ Below W0.heap.size W0 W0.drew := ⟨fun _ _ _ => rfl, below_drewOne⟩
end Go.Proofs.YtpfhebfkhailfaaDoor
