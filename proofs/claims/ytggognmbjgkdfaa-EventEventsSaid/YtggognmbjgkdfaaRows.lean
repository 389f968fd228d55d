/-
  No cell of these rows narrows 'for every input' (looked for: loops, veiled, ifaces, maps, wideKeys, modest, calm, conditions, laid).
  DERIVED. THE GIVEN ROWS OF THIS SEAT. 7 by the template 'for every input the law returns true; each argument reads behind the call as it read before'; 0 by the template 'total and deterministic' (their statements: YtggognmbjgkdfaaTotals.lean).
  GIVEN WITH THE SEED: the statements are not yours to turn. If you find one false, say at which input.
  Laid BY PROGRAM, IN A SANDBOX (cutbox-rows.mjs): the forced cells as the released guide's own fill.sh prints them over the translation 3675a046719637a0… (all of the seat's roots in one cut). By AI agents, Wed Nov 11 2026. No macro, syntax, notation, axiom, sorry.
-/
import Derived.Test.YtggognmbjgkdfaaChecked
import GoSem.Claim
import GoSem.ClaimJoined
import GoSem.ClaimMapViews
import Derived.JoinedTies
import Derived.KernelRfl
namespace Go.Proofs.Ytggognmbjgkdfaa
/- THE CELL 'sum', in the pinned program and in every row, IS THE sha256 OF THE DUMP (.gsa) THAT YtggognmbjgkdfaaProg.lean LOADS. Nothing in Lean hashes anything: it is a label: what it is worth is what the hold of that sum in a sandbox is worth. -/
noncomputable def Try.pinned : Pinned := { name := "ytggognmbjgkdfaa", sum := "3675a046719637a0bc5c92868a277e7c1148b0cb2077b1801cc5fc2b85deb066", checked := Try.checked }
namespace Rows
def none {H : Type} : Left H := { results := [], args := [] }

/-- 'penstocklaw9.EventBatches': WHATEVER THE INPUT: true; the input reads as it did. -/
def eventBatchesSpec : ChangeSpec := { name := "eventBatches", fn := fun _ => fun
  | [d1, d2] => { results := [.lit (.bool true)], args := [d1, d2] }
  | _ => none }
def eventBatchesRow : OpenClaim := { program := "ytggognmbjgkdfaa", sum := "3675a046719637a0bc5c92868a277e7c1148b0cb2077b1801cc5fc2b85deb066", func := "penstock/penstocklaw9.EventBatches", spec := "eventBatches", unfollowed := true, recurses := true, apart := false }
def EventBatchesSaid : Prop := eventBatchesRow.holds Try.pinned (OpenSpec.ofChange eventBatchesSpec)

/-- ITS FALSE NEIGHBOUR: 'it returns false'. Refute it at one input. -/
def eventBatchesWrong : ChangeSpec := { name := "eventBatches", fn := fun _ => fun
  | [d1, d2] => { results := [.lit (.bool false)], args := [d1, d2] }
  | _ => none }
def EventBatchesWrongFalsely : Prop := eventBatchesRow.holds Try.pinned (OpenSpec.ofChange eventBatchesWrong)

/-- 'penstocklaw9.EventEvents': WHATEVER THE INPUT: true; the input reads as it did. -/
def eventEventsSpec : ChangeSpec := { name := "eventEvents", fn := fun _ => fun
  | [d1, d2] => { results := [.lit (.bool true)], args := [d1, d2] }
  | _ => none }
def eventEventsRow : OpenClaim := { program := "ytggognmbjgkdfaa", sum := "3675a046719637a0bc5c92868a277e7c1148b0cb2077b1801cc5fc2b85deb066", func := "penstock/penstocklaw9.EventEvents", spec := "eventEvents", unfollowed := true, recurses := true, apart := false }
def EventEventsSaid : Prop := eventEventsRow.holds Try.pinned (OpenSpec.ofChange eventEventsSpec)

/-- ITS FALSE NEIGHBOUR: 'it returns false'. Refute it at one input. -/
def eventEventsWrong : ChangeSpec := { name := "eventEvents", fn := fun _ => fun
  | [d1, d2] => { results := [.lit (.bool false)], args := [d1, d2] }
  | _ => none }
def EventEventsWrongFalsely : Prop := eventEventsRow.holds Try.pinned (OpenSpec.ofChange eventEventsWrong)

/-- 'penstocklaw9.EventStreams': WHATEVER THE INPUT: true; the input reads as it did. -/
def eventStreamsSpec : ChangeSpec := { name := "eventStreams", fn := fun _ => fun
  | [d1, d2] => { results := [.lit (.bool true)], args := [d1, d2] }
  | _ => none }
def eventStreamsRow : OpenClaim := { program := "ytggognmbjgkdfaa", sum := "3675a046719637a0bc5c92868a277e7c1148b0cb2077b1801cc5fc2b85deb066", func := "penstock/penstocklaw9.EventStreams", spec := "eventStreams", unfollowed := true, recurses := true, apart := false }
def EventStreamsSaid : Prop := eventStreamsRow.holds Try.pinned (OpenSpec.ofChange eventStreamsSpec)

/-- ITS FALSE NEIGHBOUR: 'it returns false'. Refute it at one input. -/
def eventStreamsWrong : ChangeSpec := { name := "eventStreams", fn := fun _ => fun
  | [d1, d2] => { results := [.lit (.bool false)], args := [d1, d2] }
  | _ => none }
def EventStreamsWrongFalsely : Prop := eventStreamsRow.holds Try.pinned (OpenSpec.ofChange eventStreamsWrong)

/-- 'penstocklaw9.EventMakes': WHATEVER THE INPUT: true; the input reads as it did. -/
def eventMakesSpec : ChangeSpec := { name := "eventMakes", fn := fun _ => fun
  | [d1, d2, d3, d4] => { results := [.lit (.bool true)], args := [d1, d2, d3, d4] }
  | _ => none }
def eventMakesRow : OpenClaim := { program := "ytggognmbjgkdfaa", sum := "3675a046719637a0bc5c92868a277e7c1148b0cb2077b1801cc5fc2b85deb066", func := "penstock/penstocklaw9.EventMakes", spec := "eventMakes", apart := false }
def EventMakesSaid : Prop := eventMakesRow.holds Try.pinned (OpenSpec.ofChange eventMakesSpec)

/-- ITS FALSE NEIGHBOUR: 'it returns false'. Refute it at one input. -/
def eventMakesWrong : ChangeSpec := { name := "eventMakes", fn := fun _ => fun
  | [d1, d2, d3, d4] => { results := [.lit (.bool false)], args := [d1, d2, d3, d4] }
  | _ => none }
def EventMakesWrongFalsely : Prop := eventMakesRow.holds Try.pinned (OpenSpec.ofChange eventMakesWrong)

/-- 'penstocklaw9.EventBack': WHATEVER THE INPUT: true; the input reads as it did. -/
def eventBackSpec : ChangeSpec := { name := "eventBack", fn := fun _ => fun
  | [d1, d2, d3, d4, d5] => { results := [.lit (.bool true)], args := [d1, d2, d3, d4, d5] }
  | _ => none }
def eventBackRow : OpenClaim := { program := "ytggognmbjgkdfaa", sum := "3675a046719637a0bc5c92868a277e7c1148b0cb2077b1801cc5fc2b85deb066", func := "penstock/penstocklaw9.EventBack", spec := "eventBack", unfollowed := true, recurses := true, apart := false }
def EventBackSaid : Prop := eventBackRow.holds Try.pinned (OpenSpec.ofChange eventBackSpec)

/-- ITS FALSE NEIGHBOUR: 'it returns false'. Refute it at one input. -/
def eventBackWrong : ChangeSpec := { name := "eventBack", fn := fun _ => fun
  | [d1, d2, d3, d4, d5] => { results := [.lit (.bool false)], args := [d1, d2, d3, d4, d5] }
  | _ => none }
def EventBackWrongFalsely : Prop := eventBackRow.holds Try.pinned (OpenSpec.ofChange eventBackWrong)

/-- 'penstocklaw9.EventLimits': WHATEVER THE INPUT: true; the input reads as it did. -/
def eventLimitsSpec : ChangeSpec := { name := "eventLimits", fn := fun _ => fun
  | [d1, d2, d3] => { results := [.lit (.bool true)], args := [d1, d2, d3] }
  | _ => none }
def eventLimitsRow : OpenClaim := { program := "ytggognmbjgkdfaa", sum := "3675a046719637a0bc5c92868a277e7c1148b0cb2077b1801cc5fc2b85deb066", func := "penstock/penstocklaw9.EventLimits", spec := "eventLimits", unfollowed := true, recurses := true, apart := false }
def EventLimitsSaid : Prop := eventLimitsRow.holds Try.pinned (OpenSpec.ofChange eventLimitsSpec)

/-- ITS FALSE NEIGHBOUR: 'it returns false'. Refute it at one input. -/
def eventLimitsWrong : ChangeSpec := { name := "eventLimits", fn := fun _ => fun
  | [d1, d2, d3] => { results := [.lit (.bool false)], args := [d1, d2, d3] }
  | _ => none }
def EventLimitsWrongFalsely : Prop := eventLimitsRow.holds Try.pinned (OpenSpec.ofChange eventLimitsWrong)

/-- 'penstocklaw9.EventRuns': WHATEVER THE INPUT: true; the input reads as it did. -/
def eventRunsSpec : ChangeSpec := { name := "eventRuns", fn := fun _ => fun
  | [d1, d2, d3] => { results := [.lit (.bool true)], args := [d1, d2, d3] }
  | _ => none }
def eventRunsRow : OpenClaim := { program := "ytggognmbjgkdfaa", sum := "3675a046719637a0bc5c92868a277e7c1148b0cb2077b1801cc5fc2b85deb066", func := "penstock/penstocklaw9.EventRuns", spec := "eventRuns", unfollowed := true, recurses := true, apart := false }
def EventRunsSaid : Prop := eventRunsRow.holds Try.pinned (OpenSpec.ofChange eventRunsSpec)

/-- ITS FALSE NEIGHBOUR: 'it returns false'. Refute it at one input. -/
def eventRunsWrong : ChangeSpec := { name := "eventRuns", fn := fun _ => fun
  | [d1, d2, d3] => { results := [.lit (.bool false)], args := [d1, d2, d3] }
  | _ => none }
def EventRunsWrongFalsely : Prop := eventRunsRow.holds Try.pinned (OpenSpec.ofChange eventRunsWrong)

/- THE SECOND FORM. 'bulk': how many values and letters a reading holds, each counted each time it is reached (what is shared counts as often as it is met; a slice's spare places count too). A statement '..UptoSaid' is the law's where the arguments, and the package variables that the reading takes, are together of bulk at most 1048576: NARROWER than '..Said'. Prove '..Said' where nothing that the law and all that it calls make is longer than what came in: it says more and counts as full. Else prove '..UptoSaid'. A law counts once. -/
mutual
def uptoBulk {H : Type} : DataW H → Nat
  | .lit (.string bytes) => bytes.length + 1
  | .lit _ => 1
  | .nil => 1
  | .ptr d => uptoBulk d + 1
  | .slice elems spare => uptoBulkAll elems + uptoBulkAll spare + 1
  | .agg parts => uptoBulkAll parts + 1
  | .iface _ d => uptoBulk d + 1
  | .map entries => uptoBulkEntries entries + 1
  | .held _ => 1
def uptoBulkAll {H : Type} : List (DataW H) → Nat
  | [] => 0
  | d :: r => uptoBulk d + uptoBulkAll r
def uptoBulkEntries {H : Type} : List (Lit × DataW H) → Nat
  | [] => 0
  | x :: r => uptoBulkEntry x + uptoBulkEntries r
def uptoBulkEntry {H : Type} : Lit × DataW H → Nat
  | (.string bytes, d) => bytes.length + uptoBulk d + 1
  | (_, d) => uptoBulk d + 1
 end
def uptoSmall : (H : Type) → List (DataW H) → Bool := fun _ ds => decide (uptoBulkAll ds ≤ 1048576)
def OpenSpec.upto (s : _root_.Go.ChangeSpec) : _root_.Go.OpenSpec := { _root_.Go.OpenSpec.ofChange s with cond := some uptoSmall }

/-- 'penstocklaw9.EventBatches', WHERE WHAT IT READS IS OF BULK AT MOST 1048576: true; the input reads as it did. -/
def eventBatchesUptoRow : OpenClaim := { program := "ytggognmbjgkdfaa", sum := "3675a046719637a0bc5c92868a277e7c1148b0cb2077b1801cc5fc2b85deb066", func := "penstock/penstocklaw9.EventBatches", spec := "eventBatches", unfollowed := true, recurses := true, apart := false, narrowed := true }
def EventBatchesUptoSaid : Prop := eventBatchesUptoRow.holds Try.pinned (OpenSpec.upto eventBatchesSpec)

/-- 'penstocklaw9.EventEvents', WHERE WHAT IT READS IS OF BULK AT MOST 1048576: true; the input reads as it did. -/
def eventEventsUptoRow : OpenClaim := { program := "ytggognmbjgkdfaa", sum := "3675a046719637a0bc5c92868a277e7c1148b0cb2077b1801cc5fc2b85deb066", func := "penstock/penstocklaw9.EventEvents", spec := "eventEvents", unfollowed := true, recurses := true, apart := false, narrowed := true }
def EventEventsUptoSaid : Prop := eventEventsUptoRow.holds Try.pinned (OpenSpec.upto eventEventsSpec)

/-- 'penstocklaw9.EventStreams', WHERE WHAT IT READS IS OF BULK AT MOST 1048576: true; the input reads as it did. -/
def eventStreamsUptoRow : OpenClaim := { program := "ytggognmbjgkdfaa", sum := "3675a046719637a0bc5c92868a277e7c1148b0cb2077b1801cc5fc2b85deb066", func := "penstock/penstocklaw9.EventStreams", spec := "eventStreams", unfollowed := true, recurses := true, apart := false, narrowed := true }
def EventStreamsUptoSaid : Prop := eventStreamsUptoRow.holds Try.pinned (OpenSpec.upto eventStreamsSpec)

/-- 'penstocklaw9.EventMakes', WHERE WHAT IT READS IS OF BULK AT MOST 1048576: true; the input reads as it did. -/
def eventMakesUptoRow : OpenClaim := { program := "ytggognmbjgkdfaa", sum := "3675a046719637a0bc5c92868a277e7c1148b0cb2077b1801cc5fc2b85deb066", func := "penstock/penstocklaw9.EventMakes", spec := "eventMakes", apart := false, narrowed := true }
def EventMakesUptoSaid : Prop := eventMakesUptoRow.holds Try.pinned (OpenSpec.upto eventMakesSpec)

/-- 'penstocklaw9.EventBack', WHERE WHAT IT READS IS OF BULK AT MOST 1048576: true; the input reads as it did. -/
def eventBackUptoRow : OpenClaim := { program := "ytggognmbjgkdfaa", sum := "3675a046719637a0bc5c92868a277e7c1148b0cb2077b1801cc5fc2b85deb066", func := "penstock/penstocklaw9.EventBack", spec := "eventBack", unfollowed := true, recurses := true, apart := false, narrowed := true }
def EventBackUptoSaid : Prop := eventBackUptoRow.holds Try.pinned (OpenSpec.upto eventBackSpec)

/-- 'penstocklaw9.EventLimits', WHERE WHAT IT READS IS OF BULK AT MOST 1048576: true; the input reads as it did. -/
def eventLimitsUptoRow : OpenClaim := { program := "ytggognmbjgkdfaa", sum := "3675a046719637a0bc5c92868a277e7c1148b0cb2077b1801cc5fc2b85deb066", func := "penstock/penstocklaw9.EventLimits", spec := "eventLimits", unfollowed := true, recurses := true, apart := false, narrowed := true }
def EventLimitsUptoSaid : Prop := eventLimitsUptoRow.holds Try.pinned (OpenSpec.upto eventLimitsSpec)

/-- 'penstocklaw9.EventRuns', WHERE WHAT IT READS IS OF BULK AT MOST 1048576: true; the input reads as it did. -/
def eventRunsUptoRow : OpenClaim := { program := "ytggognmbjgkdfaa", sum := "3675a046719637a0bc5c92868a277e7c1148b0cb2077b1801cc5fc2b85deb066", func := "penstock/penstocklaw9.EventRuns", spec := "eventRuns", unfollowed := true, recurses := true, apart := false, narrowed := true }
def EventRunsUptoSaid : Prop := eventRunsUptoRow.holds Try.pinned (OpenSpec.upto eventRunsSpec)

end Rows
end Go.Proofs.Ytggognmbjgkdfaa
