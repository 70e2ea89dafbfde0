/-
  No cell of these rows narrows 'for every input' (looked for: loops, veiled, ifaces, maps, wideKeys, modest, calm, conditions, laid).
  DERIVED. THE GIVEN ROWS OF THIS SEAT. 8 by the template 'for every input the law returns true; each argument reads behind the call as it read before'; 0 by the template 'total and deterministic' (their statements: YtlflogpgfbcboaaTotals.lean).
  GIVEN WITH THE SEED: the statements are not yours to turn. If you find one false, say at which input.
  Laid BY PROGRAM, IN A SANDBOX (cutbox-rows.mjs): the forced cells as the released guide's own fill.sh prints them over the translation 8addb260a895cf7e… (all of the seat's roots in one cut). By AI agents, Wed Nov 11 2026. No macro, syntax, notation, axiom, sorry.
-/
import Derived.Test.YtlflogpgfbcboaaChecked
import GoSem.Claim
import GoSem.ClaimJoined
import GoSem.ClaimMapViews
import Derived.JoinedTies
import Derived.KernelRfl
namespace Go.Proofs.Ytlflogpgfbcboaa
/- THE CELL 'sum', in the pinned program and in every row, IS THE sha256 OF THE DUMP (.gsa) THAT YtlflogpgfbcboaaProg.lean LOADS. Nothing in Lean hashes anything: it is a label: what it is worth is what the hold of that sum in a sandbox is worth. -/
noncomputable def Try.pinned : Pinned := { name := "ytlflogpgfbcboaa", sum := "8addb260a895cf7ebffa7962645b2907b50748e5ebbf1088437689413e727996", checked := Try.checked }
namespace Rows
def none {H : Type} : Left H := { results := [], args := [] }

/-- 'laws.FnExactTreeTried': WHATEVER THE INPUT: true; the input reads as it did. -/
def fnExactTreeTriedSpec : ChangeSpec := { name := "fnExactTreeTried", fn := fun _ => fun
  | [d1, d2] => { results := [.lit (.bool true)], args := [d1, d2] }
  | _ => none }
def fnExactTreeTriedRow : OpenClaim := { program := "ytlflogpgfbcboaa", sum := "8addb260a895cf7ebffa7962645b2907b50748e5ebbf1088437689413e727996", func := "loop.example/strategiesthatspread/laws.FnExactTreeTried", spec := "fnExactTreeTried", unfollowed := true, recurses := true, apart := false }
def FnExactTreeTriedSaid : Prop := fnExactTreeTriedRow.holds Try.pinned (OpenSpec.ofChange fnExactTreeTriedSpec)

/-- ITS FALSE NEIGHBOUR: 'it returns false'. Refute it at one input. -/
def fnExactTreeTriedWrong : ChangeSpec := { name := "fnExactTreeTried", fn := fun _ => fun
  | [d1, d2] => { results := [.lit (.bool false)], args := [d1, d2] }
  | _ => none }
def FnExactTreeTriedWrongFalsely : Prop := fnExactTreeTriedRow.holds Try.pinned (OpenSpec.ofChange fnExactTreeTriedWrong)

/-- 'laws.FnExactTreeByRounds': WHATEVER THE INPUT: true; the input reads as it did. -/
def fnExactTreeByRoundsSpec : ChangeSpec := { name := "fnExactTreeByRounds", fn := fun _ => fun
  | [d1, d2] => { results := [.lit (.bool true)], args := [d1, d2] }
  | _ => none }
def fnExactTreeByRoundsRow : OpenClaim := { program := "ytlflogpgfbcboaa", sum := "8addb260a895cf7ebffa7962645b2907b50748e5ebbf1088437689413e727996", func := "loop.example/strategiesthatspread/laws.FnExactTreeByRounds", spec := "fnExactTreeByRounds", recurses := true, apart := false }
def FnExactTreeByRoundsSaid : Prop := fnExactTreeByRoundsRow.holds Try.pinned (OpenSpec.ofChange fnExactTreeByRoundsSpec)

/-- ITS FALSE NEIGHBOUR: 'it returns false'. Refute it at one input. -/
def fnExactTreeByRoundsWrong : ChangeSpec := { name := "fnExactTreeByRounds", fn := fun _ => fun
  | [d1, d2] => { results := [.lit (.bool false)], args := [d1, d2] }
  | _ => none }
def FnExactTreeByRoundsWrongFalsely : Prop := fnExactTreeByRoundsRow.holds Try.pinned (OpenSpec.ofChange fnExactTreeByRoundsWrong)

/-- 'laws.FnExactLastingOf': WHATEVER THE INPUT: true; the input reads as it did. -/
def fnExactLastingOfSpec : ChangeSpec := { name := "fnExactLastingOf", fn := fun _ => fun
  | [d] => { results := [.lit (.bool true)], args := [d] }
  | _ => none }
def fnExactLastingOfRow : OpenClaim := { program := "ytlflogpgfbcboaa", sum := "8addb260a895cf7ebffa7962645b2907b50748e5ebbf1088437689413e727996", func := "loop.example/strategiesthatspread/laws.FnExactLastingOf", spec := "fnExactLastingOf", unfollowed := true, recurses := true, apart := false }
def FnExactLastingOfSaid : Prop := fnExactLastingOfRow.holds Try.pinned (OpenSpec.ofChange fnExactLastingOfSpec)

/-- ITS FALSE NEIGHBOUR: 'it returns false'. Refute it at one input. -/
def fnExactLastingOfWrong : ChangeSpec := { name := "fnExactLastingOf", fn := fun _ => fun
  | [d] => { results := [.lit (.bool false)], args := [d] }
  | _ => none }
def FnExactLastingOfWrongFalsely : Prop := fnExactLastingOfRow.holds Try.pinned (OpenSpec.ofChange fnExactLastingOfWrong)

/-- 'laws.FnTreeTried': WHATEVER THE INPUT: true; the input reads as it did. -/
def fnTreeTriedSpec : ChangeSpec := { name := "fnTreeTried", fn := fun _ => fun
  | [d] => { results := [.lit (.bool true)], args := [d] }
  | _ => none }
def fnTreeTriedRow : OpenClaim := { program := "ytlflogpgfbcboaa", sum := "8addb260a895cf7ebffa7962645b2907b50748e5ebbf1088437689413e727996", func := "loop.example/strategiesthatspread/laws.FnTreeTried", spec := "fnTreeTried", unfollowed := true, recurses := true, apart := false }
def FnTreeTriedSaid : Prop := fnTreeTriedRow.holds Try.pinned (OpenSpec.ofChange fnTreeTriedSpec)

/-- ITS FALSE NEIGHBOUR: 'it returns false'. Refute it at one input. -/
def fnTreeTriedWrong : ChangeSpec := { name := "fnTreeTried", fn := fun _ => fun
  | [d] => { results := [.lit (.bool false)], args := [d] }
  | _ => none }
def FnTreeTriedWrongFalsely : Prop := fnTreeTriedRow.holds Try.pinned (OpenSpec.ofChange fnTreeTriedWrong)

/-- 'laws.FnTreeByRounds': WHATEVER THE INPUT: true; the input reads as it did. -/
def fnTreeByRoundsSpec : ChangeSpec := { name := "fnTreeByRounds", fn := fun _ => fun
  | [d] => { results := [.lit (.bool true)], args := [d] }
  | _ => none }
def fnTreeByRoundsRow : OpenClaim := { program := "ytlflogpgfbcboaa", sum := "8addb260a895cf7ebffa7962645b2907b50748e5ebbf1088437689413e727996", func := "loop.example/strategiesthatspread/laws.FnTreeByRounds", spec := "fnTreeByRounds", unfollowed := true, recurses := true, apart := false }
def FnTreeByRoundsSaid : Prop := fnTreeByRoundsRow.holds Try.pinned (OpenSpec.ofChange fnTreeByRoundsSpec)

/-- ITS FALSE NEIGHBOUR: 'it returns false'. Refute it at one input. -/
def fnTreeByRoundsWrong : ChangeSpec := { name := "fnTreeByRounds", fn := fun _ => fun
  | [d] => { results := [.lit (.bool false)], args := [d] }
  | _ => none }
def FnTreeByRoundsWrongFalsely : Prop := fnTreeByRoundsRow.holds Try.pinned (OpenSpec.ofChange fnTreeByRoundsWrong)

/-- 'laws.FnLastingOf': WHATEVER THE INPUT: true; the input reads as it did. -/
def fnLastingOfSpec : ChangeSpec := { name := "fnLastingOf", fn := fun _ => fun
  | [d] => { results := [.lit (.bool true)], args := [d] }
  | _ => none }
def fnLastingOfRow : OpenClaim := { program := "ytlflogpgfbcboaa", sum := "8addb260a895cf7ebffa7962645b2907b50748e5ebbf1088437689413e727996", func := "loop.example/strategiesthatspread/laws.FnLastingOf", spec := "fnLastingOf", unfollowed := true, recurses := true, apart := false }
def FnLastingOfSaid : Prop := fnLastingOfRow.holds Try.pinned (OpenSpec.ofChange fnLastingOfSpec)

/-- ITS FALSE NEIGHBOUR: 'it returns false'. Refute it at one input. -/
def fnLastingOfWrong : ChangeSpec := { name := "fnLastingOf", fn := fun _ => fun
  | [d] => { results := [.lit (.bool false)], args := [d] }
  | _ => none }
def FnLastingOfWrongFalsely : Prop := fnLastingOfRow.holds Try.pinned (OpenSpec.ofChange fnLastingOfWrong)

/-- 'laws.FnCheapStatesLast': WHATEVER THE INPUT: true; the input reads as it did. -/
def fnCheapStatesLastSpec : ChangeSpec := { name := "fnCheapStatesLast", fn := fun _ => fun
  | [d] => { results := [.lit (.bool true)], args := [d] }
  | _ => none }
def fnCheapStatesLastRow : OpenClaim := { program := "ytlflogpgfbcboaa", sum := "8addb260a895cf7ebffa7962645b2907b50748e5ebbf1088437689413e727996", func := "loop.example/strategiesthatspread/laws.FnCheapStatesLast", spec := "fnCheapStatesLast", unfollowed := true, recurses := true, apart := false }
def FnCheapStatesLastSaid : Prop := fnCheapStatesLastRow.holds Try.pinned (OpenSpec.ofChange fnCheapStatesLastSpec)

/-- ITS FALSE NEIGHBOUR: 'it returns false'. Refute it at one input. -/
def fnCheapStatesLastWrong : ChangeSpec := { name := "fnCheapStatesLast", fn := fun _ => fun
  | [d] => { results := [.lit (.bool false)], args := [d] }
  | _ => none }
def FnCheapStatesLastWrongFalsely : Prop := fnCheapStatesLastRow.holds Try.pinned (OpenSpec.ofChange fnCheapStatesLastWrong)

/-- 'laws.FnCheaperWaysHelp': WHATEVER THE INPUT: true; the input reads as it did. -/
def fnCheaperWaysHelpSpec : ChangeSpec := { name := "fnCheaperWaysHelp", fn := fun _ => fun
  | [d] => { results := [.lit (.bool true)], args := [d] }
  | _ => none }
def fnCheaperWaysHelpRow : OpenClaim := { program := "ytlflogpgfbcboaa", sum := "8addb260a895cf7ebffa7962645b2907b50748e5ebbf1088437689413e727996", func := "loop.example/strategiesthatspread/laws.FnCheaperWaysHelp", spec := "fnCheaperWaysHelp", unfollowed := true, recurses := true, apart := false }
def FnCheaperWaysHelpSaid : Prop := fnCheaperWaysHelpRow.holds Try.pinned (OpenSpec.ofChange fnCheaperWaysHelpSpec)

/-- ITS FALSE NEIGHBOUR: 'it returns false'. Refute it at one input. -/
def fnCheaperWaysHelpWrong : ChangeSpec := { name := "fnCheaperWaysHelp", fn := fun _ => fun
  | [d] => { results := [.lit (.bool false)], args := [d] }
  | _ => none }
def FnCheaperWaysHelpWrongFalsely : Prop := fnCheaperWaysHelpRow.holds Try.pinned (OpenSpec.ofChange fnCheaperWaysHelpWrong)

/- THE SECOND FORM. 'bulk': how many values and letters a reading holds, each counted each time it is reached (what is shared counts as often as it is met; a slice's spare places count too). A statement '..UptoSaid' is the law's where the arguments, and the package variables that the reading takes, are together of bulk at most 1048576: NARROWER than '..Said'. Prove '..Said' where nothing that the law and all that it calls make is longer than what came in: it says more and counts as full. Else prove '..UptoSaid'. A law counts once. -/
mutual
def uptoBulk {H : Type} : DataW H → Nat
  | .lit (.string bytes) => bytes.length + 1
  | .lit _ => 1
  | .nil => 1
  | .ptr d => uptoBulk d + 1
  | .slice elems spare => uptoBulkAll elems + uptoBulkAll spare + 1
  | .agg parts => uptoBulkAll parts + 1
  | .iface _ d => uptoBulk d + 1
  | .map entries => uptoBulkEntries entries + 1
  | .held _ => 1
def uptoBulkAll {H : Type} : List (DataW H) → Nat
  | [] => 0
  | d :: r => uptoBulk d + uptoBulkAll r
def uptoBulkEntries {H : Type} : List (Lit × DataW H) → Nat
  | [] => 0
  | x :: r => uptoBulkEntry x + uptoBulkEntries r
def uptoBulkEntry {H : Type} : Lit × DataW H → Nat
  | (.string bytes, d) => bytes.length + uptoBulk d + 1
  | (_, d) => uptoBulk d + 1
 end
def uptoSmall : (H : Type) → List (DataW H) → Bool := fun _ ds => decide (uptoBulkAll ds ≤ 1048576)
def OpenSpec.upto (s : _root_.Go.ChangeSpec) : _root_.Go.OpenSpec := { _root_.Go.OpenSpec.ofChange s with cond := some uptoSmall }

/-- 'laws.FnExactTreeTried', WHERE WHAT IT READS IS OF BULK AT MOST 1048576: true; the input reads as it did. -/
def fnExactTreeTriedUptoRow : OpenClaim := { program := "ytlflogpgfbcboaa", sum := "8addb260a895cf7ebffa7962645b2907b50748e5ebbf1088437689413e727996", func := "loop.example/strategiesthatspread/laws.FnExactTreeTried", spec := "fnExactTreeTried", unfollowed := true, recurses := true, apart := false, narrowed := true }
def FnExactTreeTriedUptoSaid : Prop := fnExactTreeTriedUptoRow.holds Try.pinned (OpenSpec.upto fnExactTreeTriedSpec)

/-- 'laws.FnExactTreeByRounds', WHERE WHAT IT READS IS OF BULK AT MOST 1048576: true; the input reads as it did. -/
def fnExactTreeByRoundsUptoRow : OpenClaim := { program := "ytlflogpgfbcboaa", sum := "8addb260a895cf7ebffa7962645b2907b50748e5ebbf1088437689413e727996", func := "loop.example/strategiesthatspread/laws.FnExactTreeByRounds", spec := "fnExactTreeByRounds", recurses := true, apart := false, narrowed := true }
def FnExactTreeByRoundsUptoSaid : Prop := fnExactTreeByRoundsUptoRow.holds Try.pinned (OpenSpec.upto fnExactTreeByRoundsSpec)

/-- 'laws.FnExactLastingOf', WHERE WHAT IT READS IS OF BULK AT MOST 1048576: true; the input reads as it did. -/
def fnExactLastingOfUptoRow : OpenClaim := { program := "ytlflogpgfbcboaa", sum := "8addb260a895cf7ebffa7962645b2907b50748e5ebbf1088437689413e727996", func := "loop.example/strategiesthatspread/laws.FnExactLastingOf", spec := "fnExactLastingOf", unfollowed := true, recurses := true, apart := false, narrowed := true }
def FnExactLastingOfUptoSaid : Prop := fnExactLastingOfUptoRow.holds Try.pinned (OpenSpec.upto fnExactLastingOfSpec)

/-- 'laws.FnTreeTried', WHERE WHAT IT READS IS OF BULK AT MOST 1048576: true; the input reads as it did. -/
def fnTreeTriedUptoRow : OpenClaim := { program := "ytlflogpgfbcboaa", sum := "8addb260a895cf7ebffa7962645b2907b50748e5ebbf1088437689413e727996", func := "loop.example/strategiesthatspread/laws.FnTreeTried", spec := "fnTreeTried", unfollowed := true, recurses := true, apart := false, narrowed := true }
def FnTreeTriedUptoSaid : Prop := fnTreeTriedUptoRow.holds Try.pinned (OpenSpec.upto fnTreeTriedSpec)

/-- 'laws.FnTreeByRounds', WHERE WHAT IT READS IS OF BULK AT MOST 1048576: true; the input reads as it did. -/
def fnTreeByRoundsUptoRow : OpenClaim := { program := "ytlflogpgfbcboaa", sum := "8addb260a895cf7ebffa7962645b2907b50748e5ebbf1088437689413e727996", func := "loop.example/strategiesthatspread/laws.FnTreeByRounds", spec := "fnTreeByRounds", unfollowed := true, recurses := true, apart := false, narrowed := true }
def FnTreeByRoundsUptoSaid : Prop := fnTreeByRoundsUptoRow.holds Try.pinned (OpenSpec.upto fnTreeByRoundsSpec)

/-- 'laws.FnLastingOf', WHERE WHAT IT READS IS OF BULK AT MOST 1048576: true; the input reads as it did. -/
def fnLastingOfUptoRow : OpenClaim := { program := "ytlflogpgfbcboaa", sum := "8addb260a895cf7ebffa7962645b2907b50748e5ebbf1088437689413e727996", func := "loop.example/strategiesthatspread/laws.FnLastingOf", spec := "fnLastingOf", unfollowed := true, recurses := true, apart := false, narrowed := true }
def FnLastingOfUptoSaid : Prop := fnLastingOfUptoRow.holds Try.pinned (OpenSpec.upto fnLastingOfSpec)

/-- 'laws.FnCheapStatesLast', WHERE WHAT IT READS IS OF BULK AT MOST 1048576: true; the input reads as it did. -/
def fnCheapStatesLastUptoRow : OpenClaim := { program := "ytlflogpgfbcboaa", sum := "8addb260a895cf7ebffa7962645b2907b50748e5ebbf1088437689413e727996", func := "loop.example/strategiesthatspread/laws.FnCheapStatesLast", spec := "fnCheapStatesLast", unfollowed := true, recurses := true, apart := false, narrowed := true }
def FnCheapStatesLastUptoSaid : Prop := fnCheapStatesLastUptoRow.holds Try.pinned (OpenSpec.upto fnCheapStatesLastSpec)

/-- 'laws.FnCheaperWaysHelp', WHERE WHAT IT READS IS OF BULK AT MOST 1048576: true; the input reads as it did. -/
def fnCheaperWaysHelpUptoRow : OpenClaim := { program := "ytlflogpgfbcboaa", sum := "8addb260a895cf7ebffa7962645b2907b50748e5ebbf1088437689413e727996", func := "loop.example/strategiesthatspread/laws.FnCheaperWaysHelp", spec := "fnCheaperWaysHelp", unfollowed := true, recurses := true, apart := false, narrowed := true }
def FnCheaperWaysHelpUptoSaid : Prop := fnCheaperWaysHelpUptoRow.holds Try.pinned (OpenSpec.upto fnCheaperWaysHelpSpec)

end Rows
end Go.Proofs.Ytlflogpgfbcboaa
