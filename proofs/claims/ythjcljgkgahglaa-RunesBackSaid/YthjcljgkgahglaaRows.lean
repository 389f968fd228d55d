/-
  No cell of these rows narrows 'for every input' (looked for: loops, veiled, ifaces, maps, wideKeys, modest, calm, conditions, laid).
  DERIVED. THE GIVEN ROWS OF THIS SEAT. 8 by the template 'for every input the law returns true; each argument reads behind the call as it read before'; 0 by the template 'total and deterministic' (their statements: YthjcljgkgahglaaTotals.lean).
  GIVEN WITH THE SEED: the statements are not yours to turn. If you find one false, say at which input.
  Laid BY PROGRAM, IN A SANDBOX (cutbox-rows.mjs): the forced cells as the released guide's own fill.sh prints them over the translation 7ed841d110a87179… (all of the seat's roots in one cut). By AI agents, Wed Nov 11 2026. No macro, syntax, notation, axiom, sorry.
-/
import Derived.Test.YthjcljgkgahglaaChecked
import GoSem.Claim
import GoSem.ClaimJoined
import GoSem.ClaimMapViews
import Derived.JoinedTies
import Derived.KernelRfl
namespace Go.Proofs.Ythjcljgkgahglaa
/- THE CELL 'sum', in the pinned program and in every row, IS THE sha256 OF THE DUMP (.gsa) THAT YthjcljgkgahglaaProg.lean LOADS. Nothing in Lean hashes anything: it is a label: what it is worth is what the hold of that sum in a sandbox is worth. -/
noncomputable def Try.pinned : Pinned := { name := "ythjcljgkgahglaa", sum := "7ed841d110a87179f3a3fecdb768d306f043e14bb3ae99cbe60e4014032f9bac", checked := Try.checked }
namespace Rows
def none {H : Type} : Left H := { results := [], args := [] }

/-- 'penstocklaw1.RunesCount': WHATEVER THE INPUT: true; the input reads as it did. -/
def runesCountSpec : ChangeSpec := { name := "runesCount", fn := fun _ => fun
  | [d1, d2] => { results := [.lit (.bool true)], args := [d1, d2] }
  | _ => none }
def runesCountRow : OpenClaim := { program := "ythjcljgkgahglaa", sum := "7ed841d110a87179f3a3fecdb768d306f043e14bb3ae99cbe60e4014032f9bac", func := "penstock/penstocklaw1.RunesCount", spec := "runesCount", inPlace := ["internal/abi.NoEscape"], apart := false }
def RunesCountSaid : Prop := runesCountRow.holds Try.pinned (OpenSpec.ofChange runesCountSpec)

/-- ITS FALSE NEIGHBOUR: 'it returns false'. Refute it at one input. -/
def runesCountWrong : ChangeSpec := { name := "runesCount", fn := fun _ => fun
  | [d1, d2] => { results := [.lit (.bool false)], args := [d1, d2] }
  | _ => none }
def RunesCountWrongFalsely : Prop := runesCountRow.holds Try.pinned (OpenSpec.ofChange runesCountWrong)

/-- 'penstocklaw1.RunesNames': WHATEVER THE INPUT: true; the input reads as it did. -/
def runesNamesSpec : ChangeSpec := { name := "runesNames", fn := fun _ => fun
  | [d1, d2] => { results := [.lit (.bool true)], args := [d1, d2] }
  | _ => none }
def runesNamesRow : OpenClaim := { program := "ythjcljgkgahglaa", sum := "7ed841d110a87179f3a3fecdb768d306f043e14bb3ae99cbe60e4014032f9bac", func := "penstock/penstocklaw1.RunesNames", spec := "runesNames", inPlace := ["internal/abi.NoEscape"], unfollowed := true, recurses := true, apart := false }
def RunesNamesSaid : Prop := runesNamesRow.holds Try.pinned (OpenSpec.ofChange runesNamesSpec)

/-- ITS FALSE NEIGHBOUR: 'it returns false'. Refute it at one input. -/
def runesNamesWrong : ChangeSpec := { name := "runesNames", fn := fun _ => fun
  | [d1, d2] => { results := [.lit (.bool false)], args := [d1, d2] }
  | _ => none }
def RunesNamesWrongFalsely : Prop := runesNamesRow.holds Try.pinned (OpenSpec.ofChange runesNamesWrong)

/-- 'penstocklaw1.RunesQuotes': WHATEVER THE INPUT: true; the input reads as it did. -/
def runesQuotesSpec : ChangeSpec := { name := "runesQuotes", fn := fun _ => fun
  | [d] => { results := [.lit (.bool true)], args := [d] }
  | _ => none }
def runesQuotesRow : OpenClaim := { program := "ythjcljgkgahglaa", sum := "7ed841d110a87179f3a3fecdb768d306f043e14bb3ae99cbe60e4014032f9bac", func := "penstock/penstocklaw1.RunesQuotes", spec := "runesQuotes", inPlace := ["internal/abi.NoEscape", "internal/bytealg.IndexByteString"], apart := false }
def RunesQuotesSaid : Prop := runesQuotesRow.holds Try.pinned (OpenSpec.ofChange runesQuotesSpec)

/-- ITS FALSE NEIGHBOUR: 'it returns false'. Refute it at one input. -/
def runesQuotesWrong : ChangeSpec := { name := "runesQuotes", fn := fun _ => fun
  | [d] => { results := [.lit (.bool false)], args := [d] }
  | _ => none }
def RunesQuotesWrongFalsely : Prop := runesQuotesRow.holds Try.pinned (OpenSpec.ofChange runesQuotesWrong)

/-- 'penstocklaw1.RunesBack': WHATEVER THE INPUT: true; the input reads as it did. -/
def runesBackSpec : ChangeSpec := { name := "runesBack", fn := fun _ => fun
  | [d1, d2] => { results := [.lit (.bool true)], args := [d1, d2] }
  | _ => none }
def runesBackRow : OpenClaim := { program := "ythjcljgkgahglaa", sum := "7ed841d110a87179f3a3fecdb768d306f043e14bb3ae99cbe60e4014032f9bac", func := "penstock/penstocklaw1.RunesBack", spec := "runesBack", inPlace := ["internal/abi.NoEscape", "internal/bytealg.IndexByteString"], apart := false }
def RunesBackSaid : Prop := runesBackRow.holds Try.pinned (OpenSpec.ofChange runesBackSpec)

/-- ITS FALSE NEIGHBOUR: 'it returns false'. Refute it at one input. -/
def runesBackWrong : ChangeSpec := { name := "runesBack", fn := fun _ => fun
  | [d1, d2] => { results := [.lit (.bool false)], args := [d1, d2] }
  | _ => none }
def RunesBackWrongFalsely : Prop := runesBackRow.holds Try.pinned (OpenSpec.ofChange runesBackWrong)

/-- 'penstocklaw1.RunesWalk': WHATEVER THE INPUT: true; the input reads as it did. -/
def runesWalkSpec : ChangeSpec := { name := "runesWalk", fn := fun _ => fun
  | [d] => { results := [.lit (.bool true)], args := [d] }
  | _ => none }
def runesWalkRow : OpenClaim := { program := "ythjcljgkgahglaa", sum := "7ed841d110a87179f3a3fecdb768d306f043e14bb3ae99cbe60e4014032f9bac", func := "penstock/penstocklaw1.RunesWalk", spec := "runesWalk", inPlace := ["internal/abi.NoEscape"], apart := false }
def RunesWalkSaid : Prop := runesWalkRow.holds Try.pinned (OpenSpec.ofChange runesWalkSpec)

/-- ITS FALSE NEIGHBOUR: 'it returns false'. Refute it at one input. -/
def runesWalkWrong : ChangeSpec := { name := "runesWalk", fn := fun _ => fun
  | [d] => { results := [.lit (.bool false)], args := [d] }
  | _ => none }
def RunesWalkWrongFalsely : Prop := runesWalkRow.holds Try.pinned (OpenSpec.ofChange runesWalkWrong)

/-- 'penstocklaw1.RunesFold': WHATEVER THE INPUT: true; the input reads as it did. -/
def runesFoldSpec : ChangeSpec := { name := "runesFold", fn := fun _ => fun
  | [d] => { results := [.lit (.bool true)], args := [d] }
  | _ => none }
def runesFoldRow : OpenClaim := { program := "ythjcljgkgahglaa", sum := "7ed841d110a87179f3a3fecdb768d306f043e14bb3ae99cbe60e4014032f9bac", func := "penstock/penstocklaw1.RunesFold", spec := "runesFold", inPlace := ["internal/abi.NoEscape"], unfollowed := true, recurses := true, apart := false }
def RunesFoldSaid : Prop := runesFoldRow.holds Try.pinned (OpenSpec.ofChange runesFoldSpec)

/-- ITS FALSE NEIGHBOUR: 'it returns false'. Refute it at one input. -/
def runesFoldWrong : ChangeSpec := { name := "runesFold", fn := fun _ => fun
  | [d] => { results := [.lit (.bool false)], args := [d] }
  | _ => none }
def RunesFoldWrongFalsely : Prop := runesFoldRow.holds Try.pinned (OpenSpec.ofChange runesFoldWrong)

/-- 'penstocklaw1.RunesLimits': WHATEVER THE INPUT: true; the input reads as it did. -/
def runesLimitsSpec : ChangeSpec := { name := "runesLimits", fn := fun _ => fun
  | [d1, d2] => { results := [.lit (.bool true)], args := [d1, d2] }
  | _ => none }
def runesLimitsRow : OpenClaim := { program := "ythjcljgkgahglaa", sum := "7ed841d110a87179f3a3fecdb768d306f043e14bb3ae99cbe60e4014032f9bac", func := "penstock/penstocklaw1.RunesLimits", spec := "runesLimits", inPlace := ["internal/abi.NoEscape"], unfollowed := true, recurses := true, apart := false }
def RunesLimitsSaid : Prop := runesLimitsRow.holds Try.pinned (OpenSpec.ofChange runesLimitsSpec)

/-- ITS FALSE NEIGHBOUR: 'it returns false'. Refute it at one input. -/
def runesLimitsWrong : ChangeSpec := { name := "runesLimits", fn := fun _ => fun
  | [d1, d2] => { results := [.lit (.bool false)], args := [d1, d2] }
  | _ => none }
def RunesLimitsWrongFalsely : Prop := runesLimitsRow.holds Try.pinned (OpenSpec.ofChange runesLimitsWrong)

/-- 'penstocklaw1.RunesJoin': WHATEVER THE INPUT: true; the input reads as it did. -/
def runesJoinSpec : ChangeSpec := { name := "runesJoin", fn := fun _ => fun
  | [d1, d2] => { results := [.lit (.bool true)], args := [d1, d2] }
  | _ => none }
def runesJoinRow : OpenClaim := { program := "ythjcljgkgahglaa", sum := "7ed841d110a87179f3a3fecdb768d306f043e14bb3ae99cbe60e4014032f9bac", func := "penstock/penstocklaw1.RunesJoin", spec := "runesJoin", inPlace := ["internal/abi.NoEscape"], apart := false }
def RunesJoinSaid : Prop := runesJoinRow.holds Try.pinned (OpenSpec.ofChange runesJoinSpec)

/-- ITS FALSE NEIGHBOUR: 'it returns false'. Refute it at one input. -/
def runesJoinWrong : ChangeSpec := { name := "runesJoin", fn := fun _ => fun
  | [d1, d2] => { results := [.lit (.bool false)], args := [d1, d2] }
  | _ => none }
def RunesJoinWrongFalsely : Prop := runesJoinRow.holds Try.pinned (OpenSpec.ofChange runesJoinWrong)

/- THE SECOND FORM. 'bulk': how many values and letters a reading holds, each counted each time it is reached (what is shared counts as often as it is met; a slice's spare places count too). A statement '..UptoSaid' is the law's where the arguments, and the package variables that the reading takes, are together of bulk at most 1048576: NARROWER than '..Said'. Prove '..Said' where nothing that the law and all that it calls make is longer than what came in: it says more and counts as full. Else prove '..UptoSaid'. A law counts once. -/
mutual
def uptoBulk {H : Type} : DataW H → Nat
  | .lit (.string bytes) => bytes.length + 1
  | .lit _ => 1
  | .nil => 1
  | .ptr d => uptoBulk d + 1
  | .slice elems spare => uptoBulkAll elems + uptoBulkAll spare + 1
  | .agg parts => uptoBulkAll parts + 1
  | .iface _ d => uptoBulk d + 1
  | .map entries => uptoBulkEntries entries + 1
  | .held _ => 1
def uptoBulkAll {H : Type} : List (DataW H) → Nat
  | [] => 0
  | d :: r => uptoBulk d + uptoBulkAll r
def uptoBulkEntries {H : Type} : List (Lit × DataW H) → Nat
  | [] => 0
  | x :: r => uptoBulkEntry x + uptoBulkEntries r
def uptoBulkEntry {H : Type} : Lit × DataW H → Nat
  | (.string bytes, d) => bytes.length + uptoBulk d + 1
  | (_, d) => uptoBulk d + 1
 end
def uptoSmall : (H : Type) → List (DataW H) → Bool := fun _ ds => decide (uptoBulkAll ds ≤ 1048576)
def OpenSpec.upto (s : _root_.Go.ChangeSpec) : _root_.Go.OpenSpec := { _root_.Go.OpenSpec.ofChange s with cond := some uptoSmall }

/-- 'penstocklaw1.RunesCount', WHERE WHAT IT READS IS OF BULK AT MOST 1048576: true; the input reads as it did. -/
def runesCountUptoRow : OpenClaim := { program := "ythjcljgkgahglaa", sum := "7ed841d110a87179f3a3fecdb768d306f043e14bb3ae99cbe60e4014032f9bac", func := "penstock/penstocklaw1.RunesCount", spec := "runesCount", inPlace := ["internal/abi.NoEscape"], apart := false, narrowed := true }
def RunesCountUptoSaid : Prop := runesCountUptoRow.holds Try.pinned (OpenSpec.upto runesCountSpec)

/-- 'penstocklaw1.RunesNames', WHERE WHAT IT READS IS OF BULK AT MOST 1048576: true; the input reads as it did. -/
def runesNamesUptoRow : OpenClaim := { program := "ythjcljgkgahglaa", sum := "7ed841d110a87179f3a3fecdb768d306f043e14bb3ae99cbe60e4014032f9bac", func := "penstock/penstocklaw1.RunesNames", spec := "runesNames", inPlace := ["internal/abi.NoEscape"], unfollowed := true, recurses := true, apart := false, narrowed := true }
def RunesNamesUptoSaid : Prop := runesNamesUptoRow.holds Try.pinned (OpenSpec.upto runesNamesSpec)

/-- 'penstocklaw1.RunesQuotes', WHERE WHAT IT READS IS OF BULK AT MOST 1048576: true; the input reads as it did. -/
def runesQuotesUptoRow : OpenClaim := { program := "ythjcljgkgahglaa", sum := "7ed841d110a87179f3a3fecdb768d306f043e14bb3ae99cbe60e4014032f9bac", func := "penstock/penstocklaw1.RunesQuotes", spec := "runesQuotes", inPlace := ["internal/abi.NoEscape", "internal/bytealg.IndexByteString"], apart := false, narrowed := true }
def RunesQuotesUptoSaid : Prop := runesQuotesUptoRow.holds Try.pinned (OpenSpec.upto runesQuotesSpec)

/-- 'penstocklaw1.RunesBack', WHERE WHAT IT READS IS OF BULK AT MOST 1048576: true; the input reads as it did. -/
def runesBackUptoRow : OpenClaim := { program := "ythjcljgkgahglaa", sum := "7ed841d110a87179f3a3fecdb768d306f043e14bb3ae99cbe60e4014032f9bac", func := "penstock/penstocklaw1.RunesBack", spec := "runesBack", inPlace := ["internal/abi.NoEscape", "internal/bytealg.IndexByteString"], apart := false, narrowed := true }
def RunesBackUptoSaid : Prop := runesBackUptoRow.holds Try.pinned (OpenSpec.upto runesBackSpec)

/-- 'penstocklaw1.RunesWalk', WHERE WHAT IT READS IS OF BULK AT MOST 1048576: true; the input reads as it did. -/
def runesWalkUptoRow : OpenClaim := { program := "ythjcljgkgahglaa", sum := "7ed841d110a87179f3a3fecdb768d306f043e14bb3ae99cbe60e4014032f9bac", func := "penstock/penstocklaw1.RunesWalk", spec := "runesWalk", inPlace := ["internal/abi.NoEscape"], apart := false, narrowed := true }
def RunesWalkUptoSaid : Prop := runesWalkUptoRow.holds Try.pinned (OpenSpec.upto runesWalkSpec)

/-- 'penstocklaw1.RunesFold', WHERE WHAT IT READS IS OF BULK AT MOST 1048576: true; the input reads as it did. -/
def runesFoldUptoRow : OpenClaim := { program := "ythjcljgkgahglaa", sum := "7ed841d110a87179f3a3fecdb768d306f043e14bb3ae99cbe60e4014032f9bac", func := "penstock/penstocklaw1.RunesFold", spec := "runesFold", inPlace := ["internal/abi.NoEscape"], unfollowed := true, recurses := true, apart := false, narrowed := true }
def RunesFoldUptoSaid : Prop := runesFoldUptoRow.holds Try.pinned (OpenSpec.upto runesFoldSpec)

/-- 'penstocklaw1.RunesLimits', WHERE WHAT IT READS IS OF BULK AT MOST 1048576: true; the input reads as it did. -/
def runesLimitsUptoRow : OpenClaim := { program := "ythjcljgkgahglaa", sum := "7ed841d110a87179f3a3fecdb768d306f043e14bb3ae99cbe60e4014032f9bac", func := "penstock/penstocklaw1.RunesLimits", spec := "runesLimits", inPlace := ["internal/abi.NoEscape"], unfollowed := true, recurses := true, apart := false, narrowed := true }
def RunesLimitsUptoSaid : Prop := runesLimitsUptoRow.holds Try.pinned (OpenSpec.upto runesLimitsSpec)

/-- 'penstocklaw1.RunesJoin', WHERE WHAT IT READS IS OF BULK AT MOST 1048576: true; the input reads as it did. -/
def runesJoinUptoRow : OpenClaim := { program := "ythjcljgkgahglaa", sum := "7ed841d110a87179f3a3fecdb768d306f043e14bb3ae99cbe60e4014032f9bac", func := "penstock/penstocklaw1.RunesJoin", spec := "runesJoin", inPlace := ["internal/abi.NoEscape"], apart := false, narrowed := true }
def RunesJoinUptoSaid : Prop := runesJoinUptoRow.holds Try.pinned (OpenSpec.upto runesJoinSpec)

end Rows
end Go.Proofs.Ythjcljgkgahglaa
