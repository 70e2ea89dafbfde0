/-
  No cell of these rows narrows 'for every input' (looked for: loops, veiled, ifaces, maps, wideKeys, modest, calm, conditions, laid).
  DERIVED. THE GIVEN ROWS OF THIS SEAT. 10 by the template 'for every input the law returns true; each argument reads behind the call as it read before'; 0 by the template 'total and deterministic' (their statements: YticcigdknaganaaTotals.lean).
  GIVEN WITH THE SEED: the statements are not yours to turn. If you find one false, say at which input.
  Laid BY PROGRAM, IN A SANDBOX (cutbox-rows.mjs): the forced cells as the released guide's own fill.sh prints them over the translation 3213f3eaeb8a17e7… (all of the seat's roots in one cut). By AI agents, Wed Nov 11 2026. No macro, syntax, notation, axiom, sorry.
-/
import Derived.Test.YticcigdknaganaaChecked
import GoSem.Claim
import GoSem.ClaimJoined
import GoSem.ClaimMapViews
import Derived.JoinedTies
import Derived.KernelRfl
namespace Go.Proofs.Yticcigdknaganaa
/- THE CELL 'sum', in the pinned program and in every row, IS THE sha256 OF THE DUMP (.gsa) THAT YticcigdknaganaaProg.lean LOADS. Nothing in Lean hashes anything: it is a label: what it is worth is what the hold of that sum in a sandbox is worth. -/
noncomputable def Try.pinned : Pinned := { name := "yticcigdknaganaa", sum := "3213f3eaeb8a17e7611b52565570ce09a02f169a5c6f6f49e256a47c8c0d5431", checked := Try.checked }
namespace Rows
def none {H : Type} : Left H := { results := [], args := [] }

/-- 'laws.FnExactReplyMoves': WHATEVER THE INPUT: true; the input reads as it did. -/
def fnExactReplyMovesSpec : ChangeSpec := { name := "fnExactReplyMoves", fn := fun _ => fun
  | [d1, d2, d3] => { results := [.lit (.bool true)], args := [d1, d2, d3] }
  | _ => none }
def fnExactReplyMovesRow : OpenClaim := { program := "yticcigdknaganaa", sum := "3213f3eaeb8a17e7611b52565570ce09a02f169a5c6f6f49e256a47c8c0d5431", func := "loop.example/strategiesthatspread/laws.FnExactReplyMoves", spec := "fnExactReplyMoves", apart := false }
def FnExactReplyMovesSaid : Prop := fnExactReplyMovesRow.holds Try.pinned (OpenSpec.ofChange fnExactReplyMovesSpec)

/-- ITS FALSE NEIGHBOUR: 'it returns false'. Refute it at one input. -/
def fnExactReplyMovesWrong : ChangeSpec := { name := "fnExactReplyMoves", fn := fun _ => fun
  | [d1, d2, d3] => { results := [.lit (.bool false)], args := [d1, d2, d3] }
  | _ => none }
def FnExactReplyMovesWrongFalsely : Prop := fnExactReplyMovesRow.holds Try.pinned (OpenSpec.ofChange fnExactReplyMovesWrong)

/-- 'laws.FnExactEndsAlways': WHATEVER THE INPUT: true; the input reads as it did. -/
def fnExactEndsAlwaysSpec : ChangeSpec := { name := "fnExactEndsAlways", fn := fun _ => fun
  | [d] => { results := [.lit (.bool true)], args := [d] }
  | _ => none }
def fnExactEndsAlwaysRow : OpenClaim := { program := "yticcigdknaganaa", sum := "3213f3eaeb8a17e7611b52565570ce09a02f169a5c6f6f49e256a47c8c0d5431", func := "loop.example/strategiesthatspread/laws.FnExactEndsAlways", spec := "fnExactEndsAlways", recurses := true, apart := false }
def FnExactEndsAlwaysSaid : Prop := fnExactEndsAlwaysRow.holds Try.pinned (OpenSpec.ofChange fnExactEndsAlwaysSpec)

/-- ITS FALSE NEIGHBOUR: 'it returns false'. Refute it at one input. -/
def fnExactEndsAlwaysWrong : ChangeSpec := { name := "fnExactEndsAlways", fn := fun _ => fun
  | [d] => { results := [.lit (.bool false)], args := [d] }
  | _ => none }
def FnExactEndsAlwaysWrongFalsely : Prop := fnExactEndsAlwaysRow.holds Try.pinned (OpenSpec.ofChange fnExactEndsAlwaysWrong)

/-- 'laws.FnExactLearnCounts': WHATEVER THE INPUT: true; the input reads as it did. -/
def fnExactLearnCountsSpec : ChangeSpec := { name := "fnExactLearnCounts", fn := fun _ => fun
  | [d1, d2] => { results := [.lit (.bool true)], args := [d1, d2] }
  | _ => none }
def fnExactLearnCountsRow : OpenClaim := { program := "yticcigdknaganaa", sum := "3213f3eaeb8a17e7611b52565570ce09a02f169a5c6f6f49e256a47c8c0d5431", func := "loop.example/strategiesthatspread/laws.FnExactLearnCounts", spec := "fnExactLearnCounts", leaving := true, apart := false }
def FnExactLearnCountsSaid : Prop := fnExactLearnCountsRow.holds Try.pinned (OpenSpec.ofChange fnExactLearnCountsSpec)

/-- ITS FALSE NEIGHBOUR: 'it returns false'. Refute it at one input. -/
def fnExactLearnCountsWrong : ChangeSpec := { name := "fnExactLearnCounts", fn := fun _ => fun
  | [d1, d2] => { results := [.lit (.bool false)], args := [d1, d2] }
  | _ => none }
def FnExactLearnCountsWrongFalsely : Prop := fnExactLearnCountsRow.holds Try.pinned (OpenSpec.ofChange fnExactLearnCountsWrong)

/-- 'laws.FnExactValidCosts': WHATEVER THE INPUT: true; the input reads as it did. -/
def fnExactValidCostsSpec : ChangeSpec := { name := "fnExactValidCosts", fn := fun _ => fun
  | [d] => { results := [.lit (.bool true)], args := [d] }
  | _ => none }
def fnExactValidCostsRow : OpenClaim := { program := "yticcigdknaganaa", sum := "3213f3eaeb8a17e7611b52565570ce09a02f169a5c6f6f49e256a47c8c0d5431", func := "loop.example/strategiesthatspread/laws.FnExactValidCosts", spec := "fnExactValidCosts", apart := false }
def FnExactValidCostsSaid : Prop := fnExactValidCostsRow.holds Try.pinned (OpenSpec.ofChange fnExactValidCostsSpec)

/-- ITS FALSE NEIGHBOUR: 'it returns false'. Refute it at one input. -/
def fnExactValidCostsWrong : ChangeSpec := { name := "fnExactValidCosts", fn := fun _ => fun
  | [d] => { results := [.lit (.bool false)], args := [d] }
  | _ => none }
def FnExactValidCostsWrongFalsely : Prop := fnExactValidCostsRow.holds Try.pinned (OpenSpec.ofChange fnExactValidCostsWrong)

/-- 'laws.FnExactTreeTried': WHATEVER THE INPUT: true; the input reads as it did. -/
def fnExactTreeTriedSpec : ChangeSpec := { name := "fnExactTreeTried", fn := fun _ => fun
  | [d1, d2] => { results := [.lit (.bool true)], args := [d1, d2] }
  | _ => none }
def fnExactTreeTriedRow : OpenClaim := { program := "yticcigdknaganaa", sum := "3213f3eaeb8a17e7611b52565570ce09a02f169a5c6f6f49e256a47c8c0d5431", func := "loop.example/strategiesthatspread/laws.FnExactTreeTried", spec := "fnExactTreeTried", unfollowed := true, recurses := true, leaving := true, apart := false }
def FnExactTreeTriedSaid : Prop := fnExactTreeTriedRow.holds Try.pinned (OpenSpec.ofChange fnExactTreeTriedSpec)

/-- ITS FALSE NEIGHBOUR: 'it returns false'. Refute it at one input. -/
def fnExactTreeTriedWrong : ChangeSpec := { name := "fnExactTreeTried", fn := fun _ => fun
  | [d1, d2] => { results := [.lit (.bool false)], args := [d1, d2] }
  | _ => none }
def FnExactTreeTriedWrongFalsely : Prop := fnExactTreeTriedRow.holds Try.pinned (OpenSpec.ofChange fnExactTreeTriedWrong)

/-- 'laws.FnExactTreeByRounds': WHATEVER THE INPUT: true; the input reads as it did. -/
def fnExactTreeByRoundsSpec : ChangeSpec := { name := "fnExactTreeByRounds", fn := fun _ => fun
  | [d1, d2] => { results := [.lit (.bool true)], args := [d1, d2] }
  | _ => none }
def fnExactTreeByRoundsRow : OpenClaim := { program := "yticcigdknaganaa", sum := "3213f3eaeb8a17e7611b52565570ce09a02f169a5c6f6f49e256a47c8c0d5431", func := "loop.example/strategiesthatspread/laws.FnExactTreeByRounds", spec := "fnExactTreeByRounds", recurses := true, apart := false }
def FnExactTreeByRoundsSaid : Prop := fnExactTreeByRoundsRow.holds Try.pinned (OpenSpec.ofChange fnExactTreeByRoundsSpec)

/-- ITS FALSE NEIGHBOUR: 'it returns false'. Refute it at one input. -/
def fnExactTreeByRoundsWrong : ChangeSpec := { name := "fnExactTreeByRounds", fn := fun _ => fun
  | [d1, d2] => { results := [.lit (.bool false)], args := [d1, d2] }
  | _ => none }
def FnExactTreeByRoundsWrongFalsely : Prop := fnExactTreeByRoundsRow.holds Try.pinned (OpenSpec.ofChange fnExactTreeByRoundsWrong)

/-- 'laws.FnExactLastingOf': WHATEVER THE INPUT: true; the input reads as it did. -/
def fnExactLastingOfSpec : ChangeSpec := { name := "fnExactLastingOf", fn := fun _ => fun
  | [d] => { results := [.lit (.bool true)], args := [d] }
  | _ => none }
def fnExactLastingOfRow : OpenClaim := { program := "yticcigdknaganaa", sum := "3213f3eaeb8a17e7611b52565570ce09a02f169a5c6f6f49e256a47c8c0d5431", func := "loop.example/strategiesthatspread/laws.FnExactLastingOf", spec := "fnExactLastingOf", unfollowed := true, recurses := true, leaving := true, apart := false }
def FnExactLastingOfSaid : Prop := fnExactLastingOfRow.holds Try.pinned (OpenSpec.ofChange fnExactLastingOfSpec)

/-- ITS FALSE NEIGHBOUR: 'it returns false'. Refute it at one input. -/
def fnExactLastingOfWrong : ChangeSpec := { name := "fnExactLastingOf", fn := fun _ => fun
  | [d] => { results := [.lit (.bool false)], args := [d] }
  | _ => none }
def FnExactLastingOfWrongFalsely : Prop := fnExactLastingOfRow.holds Try.pinned (OpenSpec.ofChange fnExactLastingOfWrong)

/-- 'laws.FnValidCosts': WHATEVER THE INPUT: true; the input reads as it did. -/
def fnValidCostsSpec : ChangeSpec := { name := "fnValidCosts", fn := fun _ => fun
  | [d] => { results := [.lit (.bool true)], args := [d] }
  | _ => none }
def fnValidCostsRow : OpenClaim := { program := "yticcigdknaganaa", sum := "3213f3eaeb8a17e7611b52565570ce09a02f169a5c6f6f49e256a47c8c0d5431", func := "loop.example/strategiesthatspread/laws.FnValidCosts", spec := "fnValidCosts", apart := false }
def FnValidCostsSaid : Prop := fnValidCostsRow.holds Try.pinned (OpenSpec.ofChange fnValidCostsSpec)

/-- ITS FALSE NEIGHBOUR: 'it returns false'. Refute it at one input. -/
def fnValidCostsWrong : ChangeSpec := { name := "fnValidCosts", fn := fun _ => fun
  | [d] => { results := [.lit (.bool false)], args := [d] }
  | _ => none }
def FnValidCostsWrongFalsely : Prop := fnValidCostsRow.holds Try.pinned (OpenSpec.ofChange fnValidCostsWrong)

/-- 'laws.FnReplyMoves': WHATEVER THE INPUT: true; the input reads as it did. -/
def fnReplyMovesSpec : ChangeSpec := { name := "fnReplyMoves", fn := fun _ => fun
  | [d] => { results := [.lit (.bool true)], args := [d] }
  | _ => none }
def fnReplyMovesRow : OpenClaim := { program := "yticcigdknaganaa", sum := "3213f3eaeb8a17e7611b52565570ce09a02f169a5c6f6f49e256a47c8c0d5431", func := "loop.example/strategiesthatspread/laws.FnReplyMoves", spec := "fnReplyMoves", apart := false }
def FnReplyMovesSaid : Prop := fnReplyMovesRow.holds Try.pinned (OpenSpec.ofChange fnReplyMovesSpec)

/-- ITS FALSE NEIGHBOUR: 'it returns false'. Refute it at one input. -/
def fnReplyMovesWrong : ChangeSpec := { name := "fnReplyMoves", fn := fun _ => fun
  | [d] => { results := [.lit (.bool false)], args := [d] }
  | _ => none }
def FnReplyMovesWrongFalsely : Prop := fnReplyMovesRow.holds Try.pinned (OpenSpec.ofChange fnReplyMovesWrong)

/-- 'laws.FnEndsAlways': WHATEVER THE INPUT: true; the input reads as it did. -/
def fnEndsAlwaysSpec : ChangeSpec := { name := "fnEndsAlways", fn := fun _ => fun
  | [d] => { results := [.lit (.bool true)], args := [d] }
  | _ => none }
def fnEndsAlwaysRow : OpenClaim := { program := "yticcigdknaganaa", sum := "3213f3eaeb8a17e7611b52565570ce09a02f169a5c6f6f49e256a47c8c0d5431", func := "loop.example/strategiesthatspread/laws.FnEndsAlways", spec := "fnEndsAlways", recurses := true, apart := false }
def FnEndsAlwaysSaid : Prop := fnEndsAlwaysRow.holds Try.pinned (OpenSpec.ofChange fnEndsAlwaysSpec)

/-- ITS FALSE NEIGHBOUR: 'it returns false'. Refute it at one input. -/
def fnEndsAlwaysWrong : ChangeSpec := { name := "fnEndsAlways", fn := fun _ => fun
  | [d] => { results := [.lit (.bool false)], args := [d] }
  | _ => none }
def FnEndsAlwaysWrongFalsely : Prop := fnEndsAlwaysRow.holds Try.pinned (OpenSpec.ofChange fnEndsAlwaysWrong)

/- THE SECOND FORM. 'bulk': how many values and letters a reading holds, each counted each time it is reached (what is shared counts as often as it is met; a slice's spare places count too). A statement '..UptoSaid' is the law's where the arguments, and the package variables that the reading takes, are together of bulk at most 1048576: NARROWER than '..Said'. Prove '..Said' where nothing that the law and all that it calls make is longer than what came in: it says more and counts as full. Else prove '..UptoSaid'. A law counts once. -/
mutual
def uptoBulk {H : Type} : DataW H → Nat
  | .lit (.string bytes) => bytes.length + 1
  | .lit _ => 1
  | .nil => 1
  | .ptr d => uptoBulk d + 1
  | .slice elems spare => uptoBulkAll elems + uptoBulkAll spare + 1
  | .agg parts => uptoBulkAll parts + 1
  | .iface _ d => uptoBulk d + 1
  | .map entries => uptoBulkEntries entries + 1
  | .held _ => 1
def uptoBulkAll {H : Type} : List (DataW H) → Nat
  | [] => 0
  | d :: r => uptoBulk d + uptoBulkAll r
def uptoBulkEntries {H : Type} : List (Lit × DataW H) → Nat
  | [] => 0
  | x :: r => uptoBulkEntry x + uptoBulkEntries r
def uptoBulkEntry {H : Type} : Lit × DataW H → Nat
  | (.string bytes, d) => bytes.length + uptoBulk d + 1
  | (_, d) => uptoBulk d + 1
 end
def uptoSmall : (H : Type) → List (DataW H) → Bool := fun _ ds => decide (uptoBulkAll ds ≤ 1048576)
def OpenSpec.upto (s : _root_.Go.ChangeSpec) : _root_.Go.OpenSpec := { _root_.Go.OpenSpec.ofChange s with cond := some uptoSmall }

/-- 'laws.FnExactReplyMoves', WHERE WHAT IT READS IS OF BULK AT MOST 1048576: true; the input reads as it did. -/
def fnExactReplyMovesUptoRow : OpenClaim := { program := "yticcigdknaganaa", sum := "3213f3eaeb8a17e7611b52565570ce09a02f169a5c6f6f49e256a47c8c0d5431", func := "loop.example/strategiesthatspread/laws.FnExactReplyMoves", spec := "fnExactReplyMoves", apart := false, narrowed := true }
def FnExactReplyMovesUptoSaid : Prop := fnExactReplyMovesUptoRow.holds Try.pinned (OpenSpec.upto fnExactReplyMovesSpec)

/-- 'laws.FnExactEndsAlways', WHERE WHAT IT READS IS OF BULK AT MOST 1048576: true; the input reads as it did. -/
def fnExactEndsAlwaysUptoRow : OpenClaim := { program := "yticcigdknaganaa", sum := "3213f3eaeb8a17e7611b52565570ce09a02f169a5c6f6f49e256a47c8c0d5431", func := "loop.example/strategiesthatspread/laws.FnExactEndsAlways", spec := "fnExactEndsAlways", recurses := true, apart := false, narrowed := true }
def FnExactEndsAlwaysUptoSaid : Prop := fnExactEndsAlwaysUptoRow.holds Try.pinned (OpenSpec.upto fnExactEndsAlwaysSpec)

/-- 'laws.FnExactLearnCounts', WHERE WHAT IT READS IS OF BULK AT MOST 1048576: true; the input reads as it did. -/
def fnExactLearnCountsUptoRow : OpenClaim := { program := "yticcigdknaganaa", sum := "3213f3eaeb8a17e7611b52565570ce09a02f169a5c6f6f49e256a47c8c0d5431", func := "loop.example/strategiesthatspread/laws.FnExactLearnCounts", spec := "fnExactLearnCounts", leaving := true, apart := false, narrowed := true }
def FnExactLearnCountsUptoSaid : Prop := fnExactLearnCountsUptoRow.holds Try.pinned (OpenSpec.upto fnExactLearnCountsSpec)

/-- 'laws.FnExactValidCosts', WHERE WHAT IT READS IS OF BULK AT MOST 1048576: true; the input reads as it did. -/
def fnExactValidCostsUptoRow : OpenClaim := { program := "yticcigdknaganaa", sum := "3213f3eaeb8a17e7611b52565570ce09a02f169a5c6f6f49e256a47c8c0d5431", func := "loop.example/strategiesthatspread/laws.FnExactValidCosts", spec := "fnExactValidCosts", apart := false, narrowed := true }
def FnExactValidCostsUptoSaid : Prop := fnExactValidCostsUptoRow.holds Try.pinned (OpenSpec.upto fnExactValidCostsSpec)

/-- 'laws.FnExactTreeTried', WHERE WHAT IT READS IS OF BULK AT MOST 1048576: true; the input reads as it did. -/
def fnExactTreeTriedUptoRow : OpenClaim := { program := "yticcigdknaganaa", sum := "3213f3eaeb8a17e7611b52565570ce09a02f169a5c6f6f49e256a47c8c0d5431", func := "loop.example/strategiesthatspread/laws.FnExactTreeTried", spec := "fnExactTreeTried", unfollowed := true, recurses := true, leaving := true, apart := false, narrowed := true }
def FnExactTreeTriedUptoSaid : Prop := fnExactTreeTriedUptoRow.holds Try.pinned (OpenSpec.upto fnExactTreeTriedSpec)

/-- 'laws.FnExactTreeByRounds', WHERE WHAT IT READS IS OF BULK AT MOST 1048576: true; the input reads as it did. -/
def fnExactTreeByRoundsUptoRow : OpenClaim := { program := "yticcigdknaganaa", sum := "3213f3eaeb8a17e7611b52565570ce09a02f169a5c6f6f49e256a47c8c0d5431", func := "loop.example/strategiesthatspread/laws.FnExactTreeByRounds", spec := "fnExactTreeByRounds", recurses := true, apart := false, narrowed := true }
def FnExactTreeByRoundsUptoSaid : Prop := fnExactTreeByRoundsUptoRow.holds Try.pinned (OpenSpec.upto fnExactTreeByRoundsSpec)

/-- 'laws.FnExactLastingOf', WHERE WHAT IT READS IS OF BULK AT MOST 1048576: true; the input reads as it did. -/
def fnExactLastingOfUptoRow : OpenClaim := { program := "yticcigdknaganaa", sum := "3213f3eaeb8a17e7611b52565570ce09a02f169a5c6f6f49e256a47c8c0d5431", func := "loop.example/strategiesthatspread/laws.FnExactLastingOf", spec := "fnExactLastingOf", unfollowed := true, recurses := true, leaving := true, apart := false, narrowed := true }
def FnExactLastingOfUptoSaid : Prop := fnExactLastingOfUptoRow.holds Try.pinned (OpenSpec.upto fnExactLastingOfSpec)

/-- 'laws.FnValidCosts', WHERE WHAT IT READS IS OF BULK AT MOST 1048576: true; the input reads as it did. -/
def fnValidCostsUptoRow : OpenClaim := { program := "yticcigdknaganaa", sum := "3213f3eaeb8a17e7611b52565570ce09a02f169a5c6f6f49e256a47c8c0d5431", func := "loop.example/strategiesthatspread/laws.FnValidCosts", spec := "fnValidCosts", apart := false, narrowed := true }
def FnValidCostsUptoSaid : Prop := fnValidCostsUptoRow.holds Try.pinned (OpenSpec.upto fnValidCostsSpec)

/-- 'laws.FnReplyMoves', WHERE WHAT IT READS IS OF BULK AT MOST 1048576: true; the input reads as it did. -/
def fnReplyMovesUptoRow : OpenClaim := { program := "yticcigdknaganaa", sum := "3213f3eaeb8a17e7611b52565570ce09a02f169a5c6f6f49e256a47c8c0d5431", func := "loop.example/strategiesthatspread/laws.FnReplyMoves", spec := "fnReplyMoves", apart := false, narrowed := true }
def FnReplyMovesUptoSaid : Prop := fnReplyMovesUptoRow.holds Try.pinned (OpenSpec.upto fnReplyMovesSpec)

/-- 'laws.FnEndsAlways', WHERE WHAT IT READS IS OF BULK AT MOST 1048576: true; the input reads as it did. -/
def fnEndsAlwaysUptoRow : OpenClaim := { program := "yticcigdknaganaa", sum := "3213f3eaeb8a17e7611b52565570ce09a02f169a5c6f6f49e256a47c8c0d5431", func := "loop.example/strategiesthatspread/laws.FnEndsAlways", spec := "fnEndsAlways", recurses := true, apart := false, narrowed := true }
def FnEndsAlwaysUptoSaid : Prop := fnEndsAlwaysUptoRow.holds Try.pinned (OpenSpec.upto fnEndsAlwaysSpec)

end Rows
end Go.Proofs.Yticcigdknaganaa
