/-
  No cell of these rows narrows 'for every input' (looked for: loops, veiled, ifaces, maps, wideKeys, modest, calm, conditions, laid).
  DERIVED. THE GIVEN ROWS OF THIS SEAT. 5 by the template 'for every input the law returns true; each argument reads behind the call as it read before'; 0 by the template 'total and deterministic' (their statements: YtdpchojfgcjbeaaTotals.lean).
  GIVEN WITH THE SEED: the statements are not yours to turn. If you find one false, say at which input.
  Laid BY PROGRAM, IN A SANDBOX (cutbox-rows.mjs): the forced cells as the released guide's own fill.sh prints them over the translation c7d54c38e0d92b3d… (all of the seat's roots in one cut). By AI agents, Wed Nov 11 2026. No macro, syntax, notation, axiom, sorry.
-/
import Derived.Test.YtdpchojfgcjbeaaChecked
import GoSem.Claim
import GoSem.ClaimJoined
import GoSem.ClaimMapViews
import Derived.JoinedTies
import Derived.KernelRfl
namespace Go.Proofs.Ytdpchojfgcjbeaa
/- THE CELL 'sum', in the pinned program and in every row, IS THE sha256 OF THE DUMP (.gsa) THAT YtdpchojfgcjbeaaProg.lean LOADS. Nothing in Lean hashes anything: it is a label: what it is worth is what the hold of that sum in a sandbox is worth. -/
noncomputable def Try.pinned : Pinned := { name := "ytdpchojfgcjbeaa", sum := "c7d54c38e0d92b3dcac3a12cb143dd1cfa36cbe103ad513bb32ef54cb5f57860", checked := Try.checked }
namespace Rows
def none {H : Type} : Left H := { results := [], args := [] }

/-- 'tithelaw04.FifoRuns': WHATEVER THE INPUT: true; the input reads as it did. -/
def fifoRunsSpec : ChangeSpec := { name := "fifoRuns", fn := fun _ => fun
  | [d1, d2] => { results := [.lit (.bool true)], args := [d1, d2] }
  | _ => none }
def fifoRunsRow : OpenClaim := { program := "ytdpchojfgcjbeaa", sum := "c7d54c38e0d92b3dcac3a12cb143dd1cfa36cbe103ad513bb32ef54cb5f57860", func := "tithe/tithelaw04.FifoRuns", spec := "fifoRuns", unfollowed := true, recurses := true, apart := false }
def FifoRunsSaid : Prop := fifoRunsRow.holds Try.pinned (OpenSpec.ofChange fifoRunsSpec)

/-- ITS FALSE NEIGHBOUR: 'it returns false'. Refute it at one input. -/
def fifoRunsWrong : ChangeSpec := { name := "fifoRuns", fn := fun _ => fun
  | [d1, d2] => { results := [.lit (.bool false)], args := [d1, d2] }
  | _ => none }
def FifoRunsWrongFalsely : Prop := fifoRunsRow.holds Try.pinned (OpenSpec.ofChange fifoRunsWrong)

/-- 'tithelaw04.FifoNone': WHATEVER THE INPUT: true; the input reads as it did. -/
def fifoNoneSpec : ChangeSpec := { name := "fifoNone", fn := fun _ => fun
  | [d1, d2] => { results := [.lit (.bool true)], args := [d1, d2] }
  | _ => none }
def fifoNoneRow : OpenClaim := { program := "ytdpchojfgcjbeaa", sum := "c7d54c38e0d92b3dcac3a12cb143dd1cfa36cbe103ad513bb32ef54cb5f57860", func := "tithe/tithelaw04.FifoNone", spec := "fifoNone", unfollowed := true, recurses := true, apart := false }
def FifoNoneSaid : Prop := fifoNoneRow.holds Try.pinned (OpenSpec.ofChange fifoNoneSpec)

/-- ITS FALSE NEIGHBOUR: 'it returns false'. Refute it at one input. -/
def fifoNoneWrong : ChangeSpec := { name := "fifoNone", fn := fun _ => fun
  | [d1, d2] => { results := [.lit (.bool false)], args := [d1, d2] }
  | _ => none }
def FifoNoneWrongFalsely : Prop := fifoNoneRow.holds Try.pinned (OpenSpec.ofChange fifoNoneWrong)

/-- 'tithelaw04.FifoOrder': WHATEVER THE INPUT: true; the input reads as it did. -/
def fifoOrderSpec : ChangeSpec := { name := "fifoOrder", fn := fun _ => fun
  | [d1, d2] => { results := [.lit (.bool true)], args := [d1, d2] }
  | _ => none }
def fifoOrderRow : OpenClaim := { program := "ytdpchojfgcjbeaa", sum := "c7d54c38e0d92b3dcac3a12cb143dd1cfa36cbe103ad513bb32ef54cb5f57860", func := "tithe/tithelaw04.FifoOrder", spec := "fifoOrder", unfollowed := true, recurses := true, apart := false }
def FifoOrderSaid : Prop := fifoOrderRow.holds Try.pinned (OpenSpec.ofChange fifoOrderSpec)

/-- ITS FALSE NEIGHBOUR: 'it returns false'. Refute it at one input. -/
def fifoOrderWrong : ChangeSpec := { name := "fifoOrder", fn := fun _ => fun
  | [d1, d2] => { results := [.lit (.bool false)], args := [d1, d2] }
  | _ => none }
def FifoOrderWrongFalsely : Prop := fifoOrderRow.holds Try.pinned (OpenSpec.ofChange fifoOrderWrong)

/-- 'tithelaw04.FifoTwins': WHATEVER THE INPUT: true; the input reads as it did. -/
def fifoTwinsSpec : ChangeSpec := { name := "fifoTwins", fn := fun _ => fun
  | [d1, d2] => { results := [.lit (.bool true)], args := [d1, d2] }
  | _ => none }
def fifoTwinsRow : OpenClaim := { program := "ytdpchojfgcjbeaa", sum := "c7d54c38e0d92b3dcac3a12cb143dd1cfa36cbe103ad513bb32ef54cb5f57860", func := "tithe/tithelaw04.FifoTwins", spec := "fifoTwins", unfollowed := true, recurses := true, apart := false }
def FifoTwinsSaid : Prop := fifoTwinsRow.holds Try.pinned (OpenSpec.ofChange fifoTwinsSpec)

/-- ITS FALSE NEIGHBOUR: 'it returns false'. Refute it at one input. -/
def fifoTwinsWrong : ChangeSpec := { name := "fifoTwins", fn := fun _ => fun
  | [d1, d2] => { results := [.lit (.bool false)], args := [d1, d2] }
  | _ => none }
def FifoTwinsWrongFalsely : Prop := fifoTwinsRow.holds Try.pinned (OpenSpec.ofChange fifoTwinsWrong)

/-- 'tithelaw04.FifoJobs': WHATEVER THE INPUT: true; the input reads as it did. -/
def fifoJobsSpec : ChangeSpec := { name := "fifoJobs", fn := fun _ => fun
  | [d1, d2] => { results := [.lit (.bool true)], args := [d1, d2] }
  | _ => none }
def fifoJobsRow : OpenClaim := { program := "ytdpchojfgcjbeaa", sum := "c7d54c38e0d92b3dcac3a12cb143dd1cfa36cbe103ad513bb32ef54cb5f57860", func := "tithe/tithelaw04.FifoJobs", spec := "fifoJobs", unfollowed := true, recurses := true, apart := false }
def FifoJobsSaid : Prop := fifoJobsRow.holds Try.pinned (OpenSpec.ofChange fifoJobsSpec)

/-- ITS FALSE NEIGHBOUR: 'it returns false'. Refute it at one input. -/
def fifoJobsWrong : ChangeSpec := { name := "fifoJobs", fn := fun _ => fun
  | [d1, d2] => { results := [.lit (.bool false)], args := [d1, d2] }
  | _ => none }
def FifoJobsWrongFalsely : Prop := fifoJobsRow.holds Try.pinned (OpenSpec.ofChange fifoJobsWrong)

/- THE SECOND FORM. 'bulk': how many values and letters a reading holds, each counted each time it is reached (what is shared counts as often as it is met; a slice's spare places count too). A statement '..UptoSaid' is the law's where the arguments, and the package variables that the reading takes, are together of bulk at most 1048576: NARROWER than '..Said'. Prove '..Said' where nothing that the law and all that it calls make is longer than what came in: it says more and counts as full. Else prove '..UptoSaid'. A law counts once. -/
mutual
def uptoBulk {H : Type} : DataW H → Nat
  | .lit (.string bytes) => bytes.length + 1
  | .lit _ => 1
  | .nil => 1
  | .ptr d => uptoBulk d + 1
  | .slice elems spare => uptoBulkAll elems + uptoBulkAll spare + 1
  | .agg parts => uptoBulkAll parts + 1
  | .iface _ d => uptoBulk d + 1
  | .map entries => uptoBulkEntries entries + 1
  | .held _ => 1
def uptoBulkAll {H : Type} : List (DataW H) → Nat
  | [] => 0
  | d :: r => uptoBulk d + uptoBulkAll r
def uptoBulkEntries {H : Type} : List (Lit × DataW H) → Nat
  | [] => 0
  | x :: r => uptoBulkEntry x + uptoBulkEntries r
def uptoBulkEntry {H : Type} : Lit × DataW H → Nat
  | (.string bytes, d) => bytes.length + uptoBulk d + 1
  | (_, d) => uptoBulk d + 1
 end
def uptoSmall : (H : Type) → List (DataW H) → Bool := fun _ ds => decide (uptoBulkAll ds ≤ 1048576)
def OpenSpec.upto (s : _root_.Go.ChangeSpec) : _root_.Go.OpenSpec := { _root_.Go.OpenSpec.ofChange s with cond := some uptoSmall }

/-- 'tithelaw04.FifoRuns', WHERE WHAT IT READS IS OF BULK AT MOST 1048576: true; the input reads as it did. -/
def fifoRunsUptoRow : OpenClaim := { program := "ytdpchojfgcjbeaa", sum := "c7d54c38e0d92b3dcac3a12cb143dd1cfa36cbe103ad513bb32ef54cb5f57860", func := "tithe/tithelaw04.FifoRuns", spec := "fifoRuns", unfollowed := true, recurses := true, apart := false, narrowed := true }
def FifoRunsUptoSaid : Prop := fifoRunsUptoRow.holds Try.pinned (OpenSpec.upto fifoRunsSpec)

/-- 'tithelaw04.FifoNone', WHERE WHAT IT READS IS OF BULK AT MOST 1048576: true; the input reads as it did. -/
def fifoNoneUptoRow : OpenClaim := { program := "ytdpchojfgcjbeaa", sum := "c7d54c38e0d92b3dcac3a12cb143dd1cfa36cbe103ad513bb32ef54cb5f57860", func := "tithe/tithelaw04.FifoNone", spec := "fifoNone", unfollowed := true, recurses := true, apart := false, narrowed := true }
def FifoNoneUptoSaid : Prop := fifoNoneUptoRow.holds Try.pinned (OpenSpec.upto fifoNoneSpec)

/-- 'tithelaw04.FifoOrder', WHERE WHAT IT READS IS OF BULK AT MOST 1048576: true; the input reads as it did. -/
def fifoOrderUptoRow : OpenClaim := { program := "ytdpchojfgcjbeaa", sum := "c7d54c38e0d92b3dcac3a12cb143dd1cfa36cbe103ad513bb32ef54cb5f57860", func := "tithe/tithelaw04.FifoOrder", spec := "fifoOrder", unfollowed := true, recurses := true, apart := false, narrowed := true }
def FifoOrderUptoSaid : Prop := fifoOrderUptoRow.holds Try.pinned (OpenSpec.upto fifoOrderSpec)

/-- 'tithelaw04.FifoTwins', WHERE WHAT IT READS IS OF BULK AT MOST 1048576: true; the input reads as it did. -/
def fifoTwinsUptoRow : OpenClaim := { program := "ytdpchojfgcjbeaa", sum := "c7d54c38e0d92b3dcac3a12cb143dd1cfa36cbe103ad513bb32ef54cb5f57860", func := "tithe/tithelaw04.FifoTwins", spec := "fifoTwins", unfollowed := true, recurses := true, apart := false, narrowed := true }
def FifoTwinsUptoSaid : Prop := fifoTwinsUptoRow.holds Try.pinned (OpenSpec.upto fifoTwinsSpec)

/-- 'tithelaw04.FifoJobs', WHERE WHAT IT READS IS OF BULK AT MOST 1048576: true; the input reads as it did. -/
def fifoJobsUptoRow : OpenClaim := { program := "ytdpchojfgcjbeaa", sum := "c7d54c38e0d92b3dcac3a12cb143dd1cfa36cbe103ad513bb32ef54cb5f57860", func := "tithe/tithelaw04.FifoJobs", spec := "fifoJobs", unfollowed := true, recurses := true, apart := false, narrowed := true }
def FifoJobsUptoSaid : Prop := fifoJobsUptoRow.holds Try.pinned (OpenSpec.upto fifoJobsSpec)

end Rows
end Go.Proofs.Ytdpchojfgcjbeaa
