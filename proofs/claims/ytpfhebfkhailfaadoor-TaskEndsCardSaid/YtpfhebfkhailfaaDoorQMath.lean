/- Jobs, accounts and tasks as plain numbers: which may be, what a tick makes of them; nothing of the program; no condition. -/
import Derived.Test.YtpfhebfkhailfaaDoorNKeep
namespace Go.Proofs.YtpfhebfkhailfaaDoor
namespace Tsk
/-- A job: its length, its cap, when it came, its due. -/
structure Jb where
  l : Int
  c : Int
  a : Int
  d : Int
deriving DecidableEq
/-- An account: given, own, lent, done, cut, late. -/
structure Ac where
  g : Int
  o : Int
  n : Int
  d : Int
  c : Int
  t : Int
deriving DecidableEq
def okJ (j : Jb) : Prop := (1 ≤ j.l ∧ j.l ≤ 1048576) ∧ (0 ≤ j.c ∧ j.c ≤ 1048576) ∧ (0 ≤ j.a ∧ j.a ≤ 1073741824) ∧ (0 ≤ j.d ∧ j.d ≤ 1073741824)
instance (j : Jb) : Decidable (okJ j) := by unfold okJ; infer_instance
def okA (k : Ac) : Prop := ((0 ≤ k.g ∧ k.g ≤ 1073741824) ∧ k.o = k.g ∧ k.n = 0) ∧ (0 ≤ k.d ∧ k.d ≤ k.g) ∧ (0 ≤ k.c ∧ k.c ≤ k.g - k.d) ∧ (0 ≤ k.t ∧ k.t ≤ k.d + k.c)
instance (k : Ac) : Decidable (okA k) := by unfold okA; infer_instance
/-- May a task be? -/
def okT (p : Int) (n : Nat) (f : Nat → Jb) (k : Ac) : Prop := (0 ≤ p ∧ p ≤ 31) ∧ n ≤ 8 ∧ (∀ i, i < n → okJ (f i)) ∧ okA k
instance (p : Int) (n : Nat) (f : Nat → Jb) (k : Ac) : Decidable (okT p n f k) := by unfold okT; infer_instance
def validE (p : Int) (n : Nat) (f : Nat → Jb) (k : Ac) : Int := if okT p n f k then 0 else 270
end Tsk
end Go.Proofs.YtpfhebfkhailfaaDoor
