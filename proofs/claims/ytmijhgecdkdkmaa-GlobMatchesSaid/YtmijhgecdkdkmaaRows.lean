/-
  No cell of these rows narrows 'for every input' (looked for: loops, veiled, ifaces, maps, wideKeys, modest, calm, conditions, laid).
  DERIVED. THE GIVEN ROWS OF THIS SEAT. 9 by the template 'for every input the law returns true; each argument reads behind the call as it read before'; 0 by the template 'total and deterministic' (their statements: YtmijhgecdkdkmaaTotals.lean).
  GIVEN WITH THE SEED: the statements are not yours to turn. If you find one false, say at which input.
  Laid BY PROGRAM, IN A SANDBOX (cutbox-rows.mjs): the forced cells as the released guide's own fill.sh prints them over the translation e2d0778c7cac1063… (all of the seat's roots in one cut). By AI agents, Wed Nov 11 2026. No macro, syntax, notation, axiom, sorry.
-/
import Derived.Test.YtmijhgecdkdkmaaChecked
import GoSem.Claim
import GoSem.ClaimJoined
import GoSem.ClaimMapViews
import Derived.JoinedTies
import Derived.KernelRfl
namespace Go.Proofs.Ytmijhgecdkdkmaa
/- THE CELL 'sum', in the pinned program and in every row, IS THE sha256 OF THE DUMP (.gsa) THAT YtmijhgecdkdkmaaProg.lean LOADS. Nothing in Lean hashes anything: it is a label: what it is worth is what the hold of that sum in a sandbox is worth. -/
noncomputable def Try.pinned : Pinned := { name := "ytmijhgecdkdkmaa", sum := "e2d0778c7cac10638f2a2ce37d90c2947df871564deaa618b86e2a612eb2ffb0", checked := Try.checked }
namespace Rows
def none {H : Type} : Left H := { results := [], args := [] }

/-- 'penstocklaw1.RunesQuotes': WHATEVER THE INPUT: true; the input reads as it did. -/
def runesQuotesSpec : ChangeSpec := { name := "runesQuotes", fn := fun _ => fun
  | [d] => { results := [.lit (.bool true)], args := [d] }
  | _ => none }
def runesQuotesRow : OpenClaim := { program := "ytmijhgecdkdkmaa", sum := "e2d0778c7cac10638f2a2ce37d90c2947df871564deaa618b86e2a612eb2ffb0", func := "penstock/penstocklaw1.RunesQuotes", spec := "runesQuotes", inPlace := ["internal/abi.NoEscape", "internal/bytealg.IndexByteString"], apart := false }
def RunesQuotesSaid : Prop := runesQuotesRow.holds Try.pinned (OpenSpec.ofChange runesQuotesSpec)

/-- ITS FALSE NEIGHBOUR: 'it returns false'. Refute it at one input. -/
def runesQuotesWrong : ChangeSpec := { name := "runesQuotes", fn := fun _ => fun
  | [d] => { results := [.lit (.bool false)], args := [d] }
  | _ => none }
def RunesQuotesWrongFalsely : Prop := runesQuotesRow.holds Try.pinned (OpenSpec.ofChange runesQuotesWrong)

/-- 'penstocklaw2.GlobMatches': WHATEVER THE INPUT: true; the input reads as it did. -/
def globMatchesSpec : ChangeSpec := { name := "globMatches", fn := fun _ => fun
  | [d1, d2] => { results := [.lit (.bool true)], args := [d1, d2] }
  | _ => none }
def globMatchesRow : OpenClaim := { program := "ytmijhgecdkdkmaa", sum := "e2d0778c7cac10638f2a2ce37d90c2947df871564deaa618b86e2a612eb2ffb0", func := "penstock/penstocklaw2.GlobMatches", spec := "globMatches", apart := false }
def GlobMatchesSaid : Prop := globMatchesRow.holds Try.pinned (OpenSpec.ofChange globMatchesSpec)

/-- ITS FALSE NEIGHBOUR: 'it returns false'. Refute it at one input. -/
def globMatchesWrong : ChangeSpec := { name := "globMatches", fn := fun _ => fun
  | [d1, d2] => { results := [.lit (.bool false)], args := [d1, d2] }
  | _ => none }
def GlobMatchesWrongFalsely : Prop := globMatchesRow.holds Try.pinned (OpenSpec.ofChange globMatchesWrong)

/-- 'penstocklaw2.GlobPlain': WHATEVER THE INPUT: true; the input reads as it did. -/
def globPlainSpec : ChangeSpec := { name := "globPlain", fn := fun _ => fun
  | [d1, d2] => { results := [.lit (.bool true)], args := [d1, d2] }
  | _ => none }
def globPlainRow : OpenClaim := { program := "ytmijhgecdkdkmaa", sum := "e2d0778c7cac10638f2a2ce37d90c2947df871564deaa618b86e2a612eb2ffb0", func := "penstock/penstocklaw2.GlobPlain", spec := "globPlain", apart := false }
def GlobPlainSaid : Prop := globPlainRow.holds Try.pinned (OpenSpec.ofChange globPlainSpec)

/-- ITS FALSE NEIGHBOUR: 'it returns false'. Refute it at one input. -/
def globPlainWrong : ChangeSpec := { name := "globPlain", fn := fun _ => fun
  | [d1, d2] => { results := [.lit (.bool false)], args := [d1, d2] }
  | _ => none }
def GlobPlainWrongFalsely : Prop := globPlainRow.holds Try.pinned (OpenSpec.ofChange globPlainWrong)

/-- 'penstocklaw2.GlobStars': WHATEVER THE INPUT: true; the input reads as it did. -/
def globStarsSpec : ChangeSpec := { name := "globStars", fn := fun _ => fun
  | [d1, d2] => { results := [.lit (.bool true)], args := [d1, d2] }
  | _ => none }
def globStarsRow : OpenClaim := { program := "ytmijhgecdkdkmaa", sum := "e2d0778c7cac10638f2a2ce37d90c2947df871564deaa618b86e2a612eb2ffb0", func := "penstock/penstocklaw2.GlobStars", spec := "globStars", apart := false }
def GlobStarsSaid : Prop := globStarsRow.holds Try.pinned (OpenSpec.ofChange globStarsSpec)

/-- ITS FALSE NEIGHBOUR: 'it returns false'. Refute it at one input. -/
def globStarsWrong : ChangeSpec := { name := "globStars", fn := fun _ => fun
  | [d1, d2] => { results := [.lit (.bool false)], args := [d1, d2] }
  | _ => none }
def GlobStarsWrongFalsely : Prop := globStarsRow.holds Try.pinned (OpenSpec.ofChange globStarsWrong)

/-- 'penstocklaw2.GlobSets': WHATEVER THE INPUT: true; the input reads as it did. -/
def globSetsSpec : ChangeSpec := { name := "globSets", fn := fun _ => fun
  | [d1, d2, d3] => { results := [.lit (.bool true)], args := [d1, d2, d3] }
  | _ => none }
def globSetsRow : OpenClaim := { program := "ytmijhgecdkdkmaa", sum := "e2d0778c7cac10638f2a2ce37d90c2947df871564deaa618b86e2a612eb2ffb0", func := "penstock/penstocklaw2.GlobSets", spec := "globSets", apart := false }
def GlobSetsSaid : Prop := globSetsRow.holds Try.pinned (OpenSpec.ofChange globSetsSpec)

/-- ITS FALSE NEIGHBOUR: 'it returns false'. Refute it at one input. -/
def globSetsWrong : ChangeSpec := { name := "globSets", fn := fun _ => fun
  | [d1, d2, d3] => { results := [.lit (.bool false)], args := [d1, d2, d3] }
  | _ => none }
def GlobSetsWrongFalsely : Prop := globSetsRow.holds Try.pinned (OpenSpec.ofChange globSetsWrong)

/-- 'penstocklaw2.GlobQuotes': WHATEVER THE INPUT: true; the input reads as it did. -/
def globQuotesSpec : ChangeSpec := { name := "globQuotes", fn := fun _ => fun
  | [d1, d2] => { results := [.lit (.bool true)], args := [d1, d2] }
  | _ => none }
def globQuotesRow : OpenClaim := { program := "ytmijhgecdkdkmaa", sum := "e2d0778c7cac10638f2a2ce37d90c2947df871564deaa618b86e2a612eb2ffb0", func := "penstock/penstocklaw2.GlobQuotes", spec := "globQuotes", apart := false }
def GlobQuotesSaid : Prop := globQuotesRow.holds Try.pinned (OpenSpec.ofChange globQuotesSpec)

/-- ITS FALSE NEIGHBOUR: 'it returns false'. Refute it at one input. -/
def globQuotesWrong : ChangeSpec := { name := "globQuotes", fn := fun _ => fun
  | [d1, d2] => { results := [.lit (.bool false)], args := [d1, d2] }
  | _ => none }
def GlobQuotesWrongFalsely : Prop := globQuotesRow.holds Try.pinned (OpenSpec.ofChange globQuotesWrong)

/-- 'penstocklaw2.GlobMany': WHATEVER THE INPUT: true; the input reads as it did. -/
def globManySpec : ChangeSpec := { name := "globMany", fn := fun _ => fun
  | [d1, d2] => { results := [.lit (.bool true)], args := [d1, d2] }
  | _ => none }
def globManyRow : OpenClaim := { program := "ytmijhgecdkdkmaa", sum := "e2d0778c7cac10638f2a2ce37d90c2947df871564deaa618b86e2a612eb2ffb0", func := "penstock/penstocklaw2.GlobMany", spec := "globMany", apart := false }
def GlobManySaid : Prop := globManyRow.holds Try.pinned (OpenSpec.ofChange globManySpec)

/-- ITS FALSE NEIGHBOUR: 'it returns false'. Refute it at one input. -/
def globManyWrong : ChangeSpec := { name := "globMany", fn := fun _ => fun
  | [d1, d2] => { results := [.lit (.bool false)], args := [d1, d2] }
  | _ => none }
def GlobManyWrongFalsely : Prop := globManyRow.holds Try.pinned (OpenSpec.ofChange globManyWrong)

/-- 'penstocklaw2.GlobJoin': WHATEVER THE INPUT: true; the input reads as it did. -/
def globJoinSpec : ChangeSpec := { name := "globJoin", fn := fun _ => fun
  | [d1, d2, d3, d4] => { results := [.lit (.bool true)], args := [d1, d2, d3, d4] }
  | _ => none }
def globJoinRow : OpenClaim := { program := "ytmijhgecdkdkmaa", sum := "e2d0778c7cac10638f2a2ce37d90c2947df871564deaa618b86e2a612eb2ffb0", func := "penstock/penstocklaw2.GlobJoin", spec := "globJoin", apart := false }
def GlobJoinSaid : Prop := globJoinRow.holds Try.pinned (OpenSpec.ofChange globJoinSpec)

/-- ITS FALSE NEIGHBOUR: 'it returns false'. Refute it at one input. -/
def globJoinWrong : ChangeSpec := { name := "globJoin", fn := fun _ => fun
  | [d1, d2, d3, d4] => { results := [.lit (.bool false)], args := [d1, d2, d3, d4] }
  | _ => none }
def GlobJoinWrongFalsely : Prop := globJoinRow.holds Try.pinned (OpenSpec.ofChange globJoinWrong)

/-- 'penstocklaw2.GlobLimit': WHATEVER THE INPUT: true; the input reads as it did. -/
def globLimitSpec : ChangeSpec := { name := "globLimit", fn := fun _ => fun
  | [d1, d2] => { results := [.lit (.bool true)], args := [d1, d2] }
  | _ => none }
def globLimitRow : OpenClaim := { program := "ytmijhgecdkdkmaa", sum := "e2d0778c7cac10638f2a2ce37d90c2947df871564deaa618b86e2a612eb2ffb0", func := "penstock/penstocklaw2.GlobLimit", spec := "globLimit", apart := false }
def GlobLimitSaid : Prop := globLimitRow.holds Try.pinned (OpenSpec.ofChange globLimitSpec)

/-- ITS FALSE NEIGHBOUR: 'it returns false'. Refute it at one input. -/
def globLimitWrong : ChangeSpec := { name := "globLimit", fn := fun _ => fun
  | [d1, d2] => { results := [.lit (.bool false)], args := [d1, d2] }
  | _ => none }
def GlobLimitWrongFalsely : Prop := globLimitRow.holds Try.pinned (OpenSpec.ofChange globLimitWrong)

/- THE SECOND FORM. 'bulk': how many values and letters a reading holds, each counted each time it is reached (what is shared counts as often as it is met; a slice's spare places count too). A statement '..UptoSaid' is the law's where the arguments, and the package variables that the reading takes, are together of bulk at most 1048576: NARROWER than '..Said'. Prove '..Said' where nothing that the law and all that it calls make is longer than what came in: it says more and counts as full. Else prove '..UptoSaid'. A law counts once. -/
mutual
def uptoBulk {H : Type} : DataW H → Nat
  | .lit (.string bytes) => bytes.length + 1
  | .lit _ => 1
  | .nil => 1
  | .ptr d => uptoBulk d + 1
  | .slice elems spare => uptoBulkAll elems + uptoBulkAll spare + 1
  | .agg parts => uptoBulkAll parts + 1
  | .iface _ d => uptoBulk d + 1
  | .map entries => uptoBulkEntries entries + 1
  | .held _ => 1
def uptoBulkAll {H : Type} : List (DataW H) → Nat
  | [] => 0
  | d :: r => uptoBulk d + uptoBulkAll r
def uptoBulkEntries {H : Type} : List (Lit × DataW H) → Nat
  | [] => 0
  | x :: r => uptoBulkEntry x + uptoBulkEntries r
def uptoBulkEntry {H : Type} : Lit × DataW H → Nat
  | (.string bytes, d) => bytes.length + uptoBulk d + 1
  | (_, d) => uptoBulk d + 1
 end
def uptoSmall : (H : Type) → List (DataW H) → Bool := fun _ ds => decide (uptoBulkAll ds ≤ 1048576)
def OpenSpec.upto (s : _root_.Go.ChangeSpec) : _root_.Go.OpenSpec := { _root_.Go.OpenSpec.ofChange s with cond := some uptoSmall }

/-- 'penstocklaw1.RunesQuotes', WHERE WHAT IT READS IS OF BULK AT MOST 1048576: true; the input reads as it did. -/
def runesQuotesUptoRow : OpenClaim := { program := "ytmijhgecdkdkmaa", sum := "e2d0778c7cac10638f2a2ce37d90c2947df871564deaa618b86e2a612eb2ffb0", func := "penstock/penstocklaw1.RunesQuotes", spec := "runesQuotes", inPlace := ["internal/abi.NoEscape", "internal/bytealg.IndexByteString"], apart := false, narrowed := true }
def RunesQuotesUptoSaid : Prop := runesQuotesUptoRow.holds Try.pinned (OpenSpec.upto runesQuotesSpec)

/-- 'penstocklaw2.GlobMatches', WHERE WHAT IT READS IS OF BULK AT MOST 1048576: true; the input reads as it did. -/
def globMatchesUptoRow : OpenClaim := { program := "ytmijhgecdkdkmaa", sum := "e2d0778c7cac10638f2a2ce37d90c2947df871564deaa618b86e2a612eb2ffb0", func := "penstock/penstocklaw2.GlobMatches", spec := "globMatches", apart := false, narrowed := true }
def GlobMatchesUptoSaid : Prop := globMatchesUptoRow.holds Try.pinned (OpenSpec.upto globMatchesSpec)

/-- 'penstocklaw2.GlobPlain', WHERE WHAT IT READS IS OF BULK AT MOST 1048576: true; the input reads as it did. -/
def globPlainUptoRow : OpenClaim := { program := "ytmijhgecdkdkmaa", sum := "e2d0778c7cac10638f2a2ce37d90c2947df871564deaa618b86e2a612eb2ffb0", func := "penstock/penstocklaw2.GlobPlain", spec := "globPlain", apart := false, narrowed := true }
def GlobPlainUptoSaid : Prop := globPlainUptoRow.holds Try.pinned (OpenSpec.upto globPlainSpec)

/-- 'penstocklaw2.GlobStars', WHERE WHAT IT READS IS OF BULK AT MOST 1048576: true; the input reads as it did. -/
def globStarsUptoRow : OpenClaim := { program := "ytmijhgecdkdkmaa", sum := "e2d0778c7cac10638f2a2ce37d90c2947df871564deaa618b86e2a612eb2ffb0", func := "penstock/penstocklaw2.GlobStars", spec := "globStars", apart := false, narrowed := true }
def GlobStarsUptoSaid : Prop := globStarsUptoRow.holds Try.pinned (OpenSpec.upto globStarsSpec)

/-- 'penstocklaw2.GlobSets', WHERE WHAT IT READS IS OF BULK AT MOST 1048576: true; the input reads as it did. -/
def globSetsUptoRow : OpenClaim := { program := "ytmijhgecdkdkmaa", sum := "e2d0778c7cac10638f2a2ce37d90c2947df871564deaa618b86e2a612eb2ffb0", func := "penstock/penstocklaw2.GlobSets", spec := "globSets", apart := false, narrowed := true }
def GlobSetsUptoSaid : Prop := globSetsUptoRow.holds Try.pinned (OpenSpec.upto globSetsSpec)

/-- 'penstocklaw2.GlobQuotes', WHERE WHAT IT READS IS OF BULK AT MOST 1048576: true; the input reads as it did. -/
def globQuotesUptoRow : OpenClaim := { program := "ytmijhgecdkdkmaa", sum := "e2d0778c7cac10638f2a2ce37d90c2947df871564deaa618b86e2a612eb2ffb0", func := "penstock/penstocklaw2.GlobQuotes", spec := "globQuotes", apart := false, narrowed := true }
def GlobQuotesUptoSaid : Prop := globQuotesUptoRow.holds Try.pinned (OpenSpec.upto globQuotesSpec)

/-- 'penstocklaw2.GlobMany', WHERE WHAT IT READS IS OF BULK AT MOST 1048576: true; the input reads as it did. -/
def globManyUptoRow : OpenClaim := { program := "ytmijhgecdkdkmaa", sum := "e2d0778c7cac10638f2a2ce37d90c2947df871564deaa618b86e2a612eb2ffb0", func := "penstock/penstocklaw2.GlobMany", spec := "globMany", apart := false, narrowed := true }
def GlobManyUptoSaid : Prop := globManyUptoRow.holds Try.pinned (OpenSpec.upto globManySpec)

/-- 'penstocklaw2.GlobJoin', WHERE WHAT IT READS IS OF BULK AT MOST 1048576: true; the input reads as it did. -/
def globJoinUptoRow : OpenClaim := { program := "ytmijhgecdkdkmaa", sum := "e2d0778c7cac10638f2a2ce37d90c2947df871564deaa618b86e2a612eb2ffb0", func := "penstock/penstocklaw2.GlobJoin", spec := "globJoin", apart := false, narrowed := true }
def GlobJoinUptoSaid : Prop := globJoinUptoRow.holds Try.pinned (OpenSpec.upto globJoinSpec)

/-- 'penstocklaw2.GlobLimit', WHERE WHAT IT READS IS OF BULK AT MOST 1048576: true; the input reads as it did. -/
def globLimitUptoRow : OpenClaim := { program := "ytmijhgecdkdkmaa", sum := "e2d0778c7cac10638f2a2ce37d90c2947df871564deaa618b86e2a612eb2ffb0", func := "penstock/penstocklaw2.GlobLimit", spec := "globLimit", apart := false, narrowed := true }
def GlobLimitUptoSaid : Prop := globLimitUptoRow.holds Try.pinned (OpenSpec.upto globLimitSpec)

end Rows
end Go.Proofs.Ytmijhgecdkdkmaa
