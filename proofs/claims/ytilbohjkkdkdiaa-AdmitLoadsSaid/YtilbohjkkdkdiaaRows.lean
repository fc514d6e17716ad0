/-
  No cell of these rows narrows 'for every input' (looked for: loops, veiled, ifaces, maps, wideKeys, modest, calm, conditions, laid).
  DERIVED. THE GIVEN ROWS OF THIS SEAT. 6 by the template 'for every input the law returns true; each argument reads behind the call as it read before'; 0 by the template 'total and deterministic' (their statements: YtilbohjkkdkdiaaTotals.lean).
  GIVEN WITH THE SEED: the statements are not yours to turn. If you find one false, say at which input.
  Laid BY PROGRAM, IN A SANDBOX (cutbox-rows.mjs): the forced cells as the released guide's own fill.sh prints them over the translation 66764d5710eff8a0… (all of the seat's roots in one cut). By AI agents, Wed Nov 11 2026. No macro, syntax, notation, axiom, sorry.
-/
import Derived.Test.YtilbohjkkdkdiaaChecked
import GoSem.Claim
import GoSem.ClaimJoined
import GoSem.ClaimMapViews
import Derived.JoinedTies
import Derived.KernelRfl
namespace Go.Proofs.Ytilbohjkkdkdiaa
/- THE CELL 'sum', in the pinned program and in every row, IS THE sha256 OF THE DUMP (.gsa) THAT YtilbohjkkdkdiaaProg.lean LOADS. Nothing in Lean hashes anything: it is a label: what it is worth is what the hold of that sum in a sandbox is worth. -/
noncomputable def Try.pinned : Pinned := { name := "ytilbohjkkdkdiaa", sum := "66764d5710eff8a09674181fb1dbee0603ce4a63d981affed7a4baaad415e61b", checked := Try.checked }
namespace Rows
def none {H : Type} : Left H := { results := [], args := [] }

/-- 'tithelaw08.AdmitRuns': WHATEVER THE INPUT: true; the input reads as it did. -/
def admitRunsSpec : ChangeSpec := { name := "admitRuns", fn := fun _ => fun
  | [d1, d2] => { results := [.lit (.bool true)], args := [d1, d2] }
  | _ => none }
def admitRunsRow : OpenClaim := { program := "ytilbohjkkdkdiaa", sum := "66764d5710eff8a09674181fb1dbee0603ce4a63d981affed7a4baaad415e61b", func := "tithe/tithelaw08.AdmitRuns", spec := "admitRuns", apart := false }
def AdmitRunsSaid : Prop := admitRunsRow.holds Try.pinned (OpenSpec.ofChange admitRunsSpec)

/-- ITS FALSE NEIGHBOUR: 'it returns false'. Refute it at one input. -/
def admitRunsWrong : ChangeSpec := { name := "admitRuns", fn := fun _ => fun
  | [d1, d2] => { results := [.lit (.bool false)], args := [d1, d2] }
  | _ => none }
def AdmitRunsWrongFalsely : Prop := admitRunsRow.holds Try.pinned (OpenSpec.ofChange admitRunsWrong)

/-- 'tithelaw08.AdmitLoads': WHATEVER THE INPUT: true; the input reads as it did. -/
def admitLoadsSpec : ChangeSpec := { name := "admitLoads", fn := fun _ => fun
  | [d1, d2] => { results := [.lit (.bool true)], args := [d1, d2] }
  | _ => none }
def admitLoadsRow : OpenClaim := { program := "ytilbohjkkdkdiaa", sum := "66764d5710eff8a09674181fb1dbee0603ce4a63d981affed7a4baaad415e61b", func := "tithe/tithelaw08.AdmitLoads", spec := "admitLoads", apart := false }
def AdmitLoadsSaid : Prop := admitLoadsRow.holds Try.pinned (OpenSpec.ofChange admitLoadsSpec)

/-- ITS FALSE NEIGHBOUR: 'it returns false'. Refute it at one input. -/
def admitLoadsWrong : ChangeSpec := { name := "admitLoads", fn := fun _ => fun
  | [d1, d2] => { results := [.lit (.bool false)], args := [d1, d2] }
  | _ => none }
def AdmitLoadsWrongFalsely : Prop := admitLoadsRow.holds Try.pinned (OpenSpec.ofChange admitLoadsWrong)

/-- 'tithelaw08.AdmitNone': WHATEVER THE INPUT: true; the input reads as it did. -/
def admitNoneSpec : ChangeSpec := { name := "admitNone", fn := fun _ => fun
  | [d] => { results := [.lit (.bool true)], args := [d] }
  | _ => none }
def admitNoneRow : OpenClaim := { program := "ytilbohjkkdkdiaa", sum := "66764d5710eff8a09674181fb1dbee0603ce4a63d981affed7a4baaad415e61b", func := "tithe/tithelaw08.AdmitNone", spec := "admitNone", apart := false }
def AdmitNoneSaid : Prop := admitNoneRow.holds Try.pinned (OpenSpec.ofChange admitNoneSpec)

/-- ITS FALSE NEIGHBOUR: 'it returns false'. Refute it at one input. -/
def admitNoneWrong : ChangeSpec := { name := "admitNone", fn := fun _ => fun
  | [d] => { results := [.lit (.bool false)], args := [d] }
  | _ => none }
def AdmitNoneWrongFalsely : Prop := admitNoneRow.holds Try.pinned (OpenSpec.ofChange admitNoneWrong)

/-- 'tithelaw08.AdmitExact': WHATEVER THE INPUT: true; the input reads as it did. -/
def admitExactSpec : ChangeSpec := { name := "admitExact", fn := fun _ => fun
  | [d] => { results := [.lit (.bool true)], args := [d] }
  | _ => none }
def admitExactRow : OpenClaim := { program := "ytilbohjkkdkdiaa", sum := "66764d5710eff8a09674181fb1dbee0603ce4a63d981affed7a4baaad415e61b", func := "tithe/tithelaw08.AdmitExact", spec := "admitExact", apart := false }
def AdmitExactSaid : Prop := admitExactRow.holds Try.pinned (OpenSpec.ofChange admitExactSpec)

/-- ITS FALSE NEIGHBOUR: 'it returns false'. Refute it at one input. -/
def admitExactWrong : ChangeSpec := { name := "admitExact", fn := fun _ => fun
  | [d] => { results := [.lit (.bool false)], args := [d] }
  | _ => none }
def AdmitExactWrongFalsely : Prop := admitExactRow.holds Try.pinned (OpenSpec.ofChange admitExactWrong)

/-- 'tithelaw08.AdmitRoom': WHATEVER THE INPUT: true; the input reads as it did. -/
def admitRoomSpec : ChangeSpec := { name := "admitRoom", fn := fun _ => fun
  | [d1, d2] => { results := [.lit (.bool true)], args := [d1, d2] }
  | _ => none }
def admitRoomRow : OpenClaim := { program := "ytilbohjkkdkdiaa", sum := "66764d5710eff8a09674181fb1dbee0603ce4a63d981affed7a4baaad415e61b", func := "tithe/tithelaw08.AdmitRoom", spec := "admitRoom", apart := false }
def AdmitRoomSaid : Prop := admitRoomRow.holds Try.pinned (OpenSpec.ofChange admitRoomSpec)

/-- ITS FALSE NEIGHBOUR: 'it returns false'. Refute it at one input. -/
def admitRoomWrong : ChangeSpec := { name := "admitRoom", fn := fun _ => fun
  | [d1, d2] => { results := [.lit (.bool false)], args := [d1, d2] }
  | _ => none }
def AdmitRoomWrongFalsely : Prop := admitRoomRow.holds Try.pinned (OpenSpec.ofChange admitRoomWrong)

/-- 'tithelaw08.AdmitTwins': WHATEVER THE INPUT: true; the input reads as it did. -/
def admitTwinsSpec : ChangeSpec := { name := "admitTwins", fn := fun _ => fun
  | [d1, d2] => { results := [.lit (.bool true)], args := [d1, d2] }
  | _ => none }
def admitTwinsRow : OpenClaim := { program := "ytilbohjkkdkdiaa", sum := "66764d5710eff8a09674181fb1dbee0603ce4a63d981affed7a4baaad415e61b", func := "tithe/tithelaw08.AdmitTwins", spec := "admitTwins", apart := false }
def AdmitTwinsSaid : Prop := admitTwinsRow.holds Try.pinned (OpenSpec.ofChange admitTwinsSpec)

/-- ITS FALSE NEIGHBOUR: 'it returns false'. Refute it at one input. -/
def admitTwinsWrong : ChangeSpec := { name := "admitTwins", fn := fun _ => fun
  | [d1, d2] => { results := [.lit (.bool false)], args := [d1, d2] }
  | _ => none }
def AdmitTwinsWrongFalsely : Prop := admitTwinsRow.holds Try.pinned (OpenSpec.ofChange admitTwinsWrong)

/- THE SECOND FORM. 'bulk': how many values and letters a reading holds, each counted each time it is reached (what is shared counts as often as it is met; a slice's spare places count too). A statement '..UptoSaid' is the law's where the arguments, and the package variables that the reading takes, are together of bulk at most 1048576: NARROWER than '..Said'. Prove '..Said' where nothing that the law and all that it calls make is longer than what came in: it says more and counts as full. Else prove '..UptoSaid'. A law counts once. -/
mutual
def uptoBulk {H : Type} : DataW H → Nat
  | .lit (.string bytes) => bytes.length + 1
  | .lit _ => 1
  | .nil => 1
  | .ptr d => uptoBulk d + 1
  | .slice elems spare => uptoBulkAll elems + uptoBulkAll spare + 1
  | .agg parts => uptoBulkAll parts + 1
  | .iface _ d => uptoBulk d + 1
  | .map entries => uptoBulkEntries entries + 1
  | .held _ => 1
def uptoBulkAll {H : Type} : List (DataW H) → Nat
  | [] => 0
  | d :: r => uptoBulk d + uptoBulkAll r
def uptoBulkEntries {H : Type} : List (Lit × DataW H) → Nat
  | [] => 0
  | x :: r => uptoBulkEntry x + uptoBulkEntries r
def uptoBulkEntry {H : Type} : Lit × DataW H → Nat
  | (.string bytes, d) => bytes.length + uptoBulk d + 1
  | (_, d) => uptoBulk d + 1
 end
def uptoSmall : (H : Type) → List (DataW H) → Bool := fun _ ds => decide (uptoBulkAll ds ≤ 1048576)
def OpenSpec.upto (s : _root_.Go.ChangeSpec) : _root_.Go.OpenSpec := { _root_.Go.OpenSpec.ofChange s with cond := some uptoSmall }

/-- 'tithelaw08.AdmitRuns', WHERE WHAT IT READS IS OF BULK AT MOST 1048576: true; the input reads as it did. -/
def admitRunsUptoRow : OpenClaim := { program := "ytilbohjkkdkdiaa", sum := "66764d5710eff8a09674181fb1dbee0603ce4a63d981affed7a4baaad415e61b", func := "tithe/tithelaw08.AdmitRuns", spec := "admitRuns", apart := false, narrowed := true }
def AdmitRunsUptoSaid : Prop := admitRunsUptoRow.holds Try.pinned (OpenSpec.upto admitRunsSpec)

/-- 'tithelaw08.AdmitLoads', WHERE WHAT IT READS IS OF BULK AT MOST 1048576: true; the input reads as it did. -/
def admitLoadsUptoRow : OpenClaim := { program := "ytilbohjkkdkdiaa", sum := "66764d5710eff8a09674181fb1dbee0603ce4a63d981affed7a4baaad415e61b", func := "tithe/tithelaw08.AdmitLoads", spec := "admitLoads", apart := false, narrowed := true }
def AdmitLoadsUptoSaid : Prop := admitLoadsUptoRow.holds Try.pinned (OpenSpec.upto admitLoadsSpec)

/-- 'tithelaw08.AdmitNone', WHERE WHAT IT READS IS OF BULK AT MOST 1048576: true; the input reads as it did. -/
def admitNoneUptoRow : OpenClaim := { program := "ytilbohjkkdkdiaa", sum := "66764d5710eff8a09674181fb1dbee0603ce4a63d981affed7a4baaad415e61b", func := "tithe/tithelaw08.AdmitNone", spec := "admitNone", apart := false, narrowed := true }
def AdmitNoneUptoSaid : Prop := admitNoneUptoRow.holds Try.pinned (OpenSpec.upto admitNoneSpec)

/-- 'tithelaw08.AdmitExact', WHERE WHAT IT READS IS OF BULK AT MOST 1048576: true; the input reads as it did. -/
def admitExactUptoRow : OpenClaim := { program := "ytilbohjkkdkdiaa", sum := "66764d5710eff8a09674181fb1dbee0603ce4a63d981affed7a4baaad415e61b", func := "tithe/tithelaw08.AdmitExact", spec := "admitExact", apart := false, narrowed := true }
def AdmitExactUptoSaid : Prop := admitExactUptoRow.holds Try.pinned (OpenSpec.upto admitExactSpec)

/-- 'tithelaw08.AdmitRoom', WHERE WHAT IT READS IS OF BULK AT MOST 1048576: true; the input reads as it did. -/
def admitRoomUptoRow : OpenClaim := { program := "ytilbohjkkdkdiaa", sum := "66764d5710eff8a09674181fb1dbee0603ce4a63d981affed7a4baaad415e61b", func := "tithe/tithelaw08.AdmitRoom", spec := "admitRoom", apart := false, narrowed := true }
def AdmitRoomUptoSaid : Prop := admitRoomUptoRow.holds Try.pinned (OpenSpec.upto admitRoomSpec)

/-- 'tithelaw08.AdmitTwins', WHERE WHAT IT READS IS OF BULK AT MOST 1048576: true; the input reads as it did. -/
def admitTwinsUptoRow : OpenClaim := { program := "ytilbohjkkdkdiaa", sum := "66764d5710eff8a09674181fb1dbee0603ce4a63d981affed7a4baaad415e61b", func := "tithe/tithelaw08.AdmitTwins", spec := "admitTwins", apart := false, narrowed := true }
def AdmitTwinsUptoSaid : Prop := admitTwinsUptoRow.holds Try.pinned (OpenSpec.upto admitTwinsSpec)

end Rows
end Go.Proofs.Ytilbohjkkdkdiaa
