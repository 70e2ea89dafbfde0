/-
  No cell of these rows narrows 'for every input' (looked for: loops, veiled, ifaces, maps, wideKeys, modest, calm, conditions, laid).
  DERIVED. THE GIVEN ROWS OF THIS SEAT. 10 by the template 'for every input the law returns true; each argument reads behind the call as it read before'; 0 by the template 'total and deterministic' (their statements: YtibliobcbbhopaaTotals.lean).
  GIVEN WITH THE SEED: the statements are not yours to turn. If you find one false, say at which input.
  Laid BY PROGRAM, IN A SANDBOX (cutbox-rows.mjs): the forced cells as the released guide's own fill.sh prints them over the translation dcadb63b547ab471… (all of the seat's roots in one cut). By AI agents, Wed Nov 11 2026. No macro, syntax, notation, axiom, sorry.
-/
import Derived.Test.YtibliobcbbhopaaChecked
import GoSem.Claim
import GoSem.ClaimJoined
import GoSem.ClaimMapViews
import Derived.JoinedTies
import Derived.KernelRfl
namespace Go.Proofs.Ytibliobcbbhopaa
/- THE CELL 'sum', in the pinned program and in every row, IS THE sha256 OF THE DUMP (.gsa) THAT YtibliobcbbhopaaProg.lean LOADS. Nothing in Lean hashes anything: it is a label: what it is worth is what the hold of that sum in a sandbox is worth. -/
noncomputable def Try.pinned : Pinned := { name := "ytibliobcbbhopaa", sum := "dcadb63b547ab471e57230c107c8bcbee06206d91f761521e02f5c3c07e8c55c", checked := Try.checked }
namespace Rows
def none {H : Type} : Left H := { results := [], args := [] }

/-- 'laws.FnValidGame': WHATEVER THE INPUT: true; the input reads as it did. -/
def fnValidGameSpec : ChangeSpec := { name := "fnValidGame", fn := fun _ => fun
  | [d] => { results := [.lit (.bool true)], args := [d] }
  | _ => none }
def fnValidGameRow : OpenClaim := { program := "ytibliobcbbhopaa", sum := "dcadb63b547ab471e57230c107c8bcbee06206d91f761521e02f5c3c07e8c55c", func := "loop.example/strategiesthatspread/laws.FnValidGame", spec := "fnValidGame", apart := false }
def FnValidGameSaid : Prop := fnValidGameRow.holds Try.pinned (OpenSpec.ofChange fnValidGameSpec)

/-- ITS FALSE NEIGHBOUR: 'it returns false'. Refute it at one input. -/
def fnValidGameWrong : ChangeSpec := { name := "fnValidGame", fn := fun _ => fun
  | [d] => { results := [.lit (.bool false)], args := [d] }
  | _ => none }
def FnValidGameWrongFalsely : Prop := fnValidGameRow.holds Try.pinned (OpenSpec.ofChange fnValidGameWrong)

/-- 'laws.FnLeftOver': WHATEVER THE INPUT: true; the input reads as it did. -/
def fnLeftOverSpec : ChangeSpec := { name := "fnLeftOver", fn := fun _ => fun
  | [d] => { results := [.lit (.bool true)], args := [d] }
  | _ => none }
def fnLeftOverRow : OpenClaim := { program := "ytibliobcbbhopaa", sum := "dcadb63b547ab471e57230c107c8bcbee06206d91f761521e02f5c3c07e8c55c", func := "loop.example/strategiesthatspread/laws.FnLeftOver", spec := "fnLeftOver", apart := false }
def FnLeftOverSaid : Prop := fnLeftOverRow.holds Try.pinned (OpenSpec.ofChange fnLeftOverSpec)

/-- ITS FALSE NEIGHBOUR: 'it returns false'. Refute it at one input. -/
def fnLeftOverWrong : ChangeSpec := { name := "fnLeftOver", fn := fun _ => fun
  | [d] => { results := [.lit (.bool false)], args := [d] }
  | _ => none }
def FnLeftOverWrongFalsely : Prop := fnLeftOverRow.holds Try.pinned (OpenSpec.ofChange fnLeftOverWrong)

/-- 'laws.FnNoRounds': WHATEVER THE INPUT: true; the input reads as it did. -/
def fnNoRoundsSpec : ChangeSpec := { name := "fnNoRounds", fn := fun _ => fun
  | [d] => { results := [.lit (.bool true)], args := [d] }
  | _ => none }
def fnNoRoundsRow : OpenClaim := { program := "ytibliobcbbhopaa", sum := "dcadb63b547ab471e57230c107c8bcbee06206d91f761521e02f5c3c07e8c55c", func := "loop.example/strategiesthatspread/laws.FnNoRounds", spec := "fnNoRounds", apart := false }
def FnNoRoundsSaid : Prop := fnNoRoundsRow.holds Try.pinned (OpenSpec.ofChange fnNoRoundsSpec)

/-- ITS FALSE NEIGHBOUR: 'it returns false'. Refute it at one input. -/
def fnNoRoundsWrong : ChangeSpec := { name := "fnNoRounds", fn := fun _ => fun
  | [d] => { results := [.lit (.bool false)], args := [d] }
  | _ => none }
def FnNoRoundsWrongFalsely : Prop := fnNoRoundsRow.holds Try.pinned (OpenSpec.ofChange fnNoRoundsWrong)

/-- 'laws.FnValidShares': WHATEVER THE INPUT: true; the input reads as it did. -/
def fnValidSharesSpec : ChangeSpec := { name := "fnValidShares", fn := fun _ => fun
  | [d] => { results := [.lit (.bool true)], args := [d] }
  | _ => none }
def fnValidSharesRow : OpenClaim := { program := "ytibliobcbbhopaa", sum := "dcadb63b547ab471e57230c107c8bcbee06206d91f761521e02f5c3c07e8c55c", func := "loop.example/strategiesthatspread/laws.FnValidShares", spec := "fnValidShares", apart := false }
def FnValidSharesSaid : Prop := fnValidSharesRow.holds Try.pinned (OpenSpec.ofChange fnValidSharesSpec)

/-- ITS FALSE NEIGHBOUR: 'it returns false'. Refute it at one input. -/
def fnValidSharesWrong : ChangeSpec := { name := "fnValidShares", fn := fun _ => fun
  | [d] => { results := [.lit (.bool false)], args := [d] }
  | _ => none }
def FnValidSharesWrongFalsely : Prop := fnValidSharesRow.holds Try.pinned (OpenSpec.ofChange fnValidSharesWrong)

/-- 'laws.FnExactLeftOver': WHATEVER THE INPUT: true; the input reads as it did. -/
def fnExactLeftOverSpec : ChangeSpec := { name := "fnExactLeftOver", fn := fun _ => fun
  | [d] => { results := [.lit (.bool true)], args := [d] }
  | _ => none }
def fnExactLeftOverRow : OpenClaim := { program := "ytibliobcbbhopaa", sum := "dcadb63b547ab471e57230c107c8bcbee06206d91f761521e02f5c3c07e8c55c", func := "loop.example/strategiesthatspread/laws.FnExactLeftOver", spec := "fnExactLeftOver", apart := false }
def FnExactLeftOverSaid : Prop := fnExactLeftOverRow.holds Try.pinned (OpenSpec.ofChange fnExactLeftOverSpec)

/-- ITS FALSE NEIGHBOUR: 'it returns false'. Refute it at one input. -/
def fnExactLeftOverWrong : ChangeSpec := { name := "fnExactLeftOver", fn := fun _ => fun
  | [d] => { results := [.lit (.bool false)], args := [d] }
  | _ => none }
def FnExactLeftOverWrongFalsely : Prop := fnExactLeftOverRow.holds Try.pinned (OpenSpec.ofChange fnExactLeftOverWrong)

/-- 'laws.FnExactPotentialOf': WHATEVER THE INPUT: true; the input reads as it did. -/
def fnExactPotentialOfSpec : ChangeSpec := { name := "fnExactPotentialOf", fn := fun _ => fun
  | [d] => { results := [.lit (.bool true)], args := [d] }
  | _ => none }
def fnExactPotentialOfRow : OpenClaim := { program := "ytibliobcbbhopaa", sum := "dcadb63b547ab471e57230c107c8bcbee06206d91f761521e02f5c3c07e8c55c", func := "loop.example/strategiesthatspread/laws.FnExactPotentialOf", spec := "fnExactPotentialOf", apart := false }
def FnExactPotentialOfSaid : Prop := fnExactPotentialOfRow.holds Try.pinned (OpenSpec.ofChange fnExactPotentialOfSpec)

/-- ITS FALSE NEIGHBOUR: 'it returns false'. Refute it at one input. -/
def fnExactPotentialOfWrong : ChangeSpec := { name := "fnExactPotentialOf", fn := fun _ => fun
  | [d] => { results := [.lit (.bool false)], args := [d] }
  | _ => none }
def FnExactPotentialOfWrongFalsely : Prop := fnExactPotentialOfRow.holds Try.pinned (OpenSpec.ofChange fnExactPotentialOfWrong)

/-- 'laws.FnExactValidShares': WHATEVER THE INPUT: true; the input reads as it did. -/
def fnExactValidSharesSpec : ChangeSpec := { name := "fnExactValidShares", fn := fun _ => fun
  | [d1, d2] => { results := [.lit (.bool true)], args := [d1, d2] }
  | _ => none }
def fnExactValidSharesRow : OpenClaim := { program := "ytibliobcbbhopaa", sum := "dcadb63b547ab471e57230c107c8bcbee06206d91f761521e02f5c3c07e8c55c", func := "loop.example/strategiesthatspread/laws.FnExactValidShares", spec := "fnExactValidShares", apart := false }
def FnExactValidSharesSaid : Prop := fnExactValidSharesRow.holds Try.pinned (OpenSpec.ofChange fnExactValidSharesSpec)

/-- ITS FALSE NEIGHBOUR: 'it returns false'. Refute it at one input. -/
def fnExactValidSharesWrong : ChangeSpec := { name := "fnExactValidShares", fn := fun _ => fun
  | [d1, d2] => { results := [.lit (.bool false)], args := [d1, d2] }
  | _ => none }
def FnExactValidSharesWrongFalsely : Prop := fnExactValidSharesRow.holds Try.pinned (OpenSpec.ofChange fnExactValidSharesWrong)

/-- 'laws.FnExactPayOf': WHATEVER THE INPUT: true; the input reads as it did. -/
def fnExactPayOfSpec : ChangeSpec := { name := "fnExactPayOf", fn := fun _ => fun
  | [d1, d2, d3] => { results := [.lit (.bool true)], args := [d1, d2, d3] }
  | _ => none }
def fnExactPayOfRow : OpenClaim := { program := "ytibliobcbbhopaa", sum := "dcadb63b547ab471e57230c107c8bcbee06206d91f761521e02f5c3c07e8c55c", func := "loop.example/strategiesthatspread/laws.FnExactPayOf", spec := "fnExactPayOf", apart := false }
def FnExactPayOfSaid : Prop := fnExactPayOfRow.holds Try.pinned (OpenSpec.ofChange fnExactPayOfSpec)

/-- ITS FALSE NEIGHBOUR: 'it returns false'. Refute it at one input. -/
def fnExactPayOfWrong : ChangeSpec := { name := "fnExactPayOf", fn := fun _ => fun
  | [d1, d2, d3] => { results := [.lit (.bool false)], args := [d1, d2, d3] }
  | _ => none }
def FnExactPayOfWrongFalsely : Prop := fnExactPayOfRow.holds Try.pinned (OpenSpec.ofChange fnExactPayOfWrong)

/-- 'laws.FnExactWorstOf': WHATEVER THE INPUT: true; the input reads as it did. -/
def fnExactWorstOfSpec : ChangeSpec := { name := "fnExactWorstOf", fn := fun _ => fun
  | [d1, d2] => { results := [.lit (.bool true)], args := [d1, d2] }
  | _ => none }
def fnExactWorstOfRow : OpenClaim := { program := "ytibliobcbbhopaa", sum := "dcadb63b547ab471e57230c107c8bcbee06206d91f761521e02f5c3c07e8c55c", func := "loop.example/strategiesthatspread/laws.FnExactWorstOf", spec := "fnExactWorstOf", apart := false }
def FnExactWorstOfSaid : Prop := fnExactWorstOfRow.holds Try.pinned (OpenSpec.ofChange fnExactWorstOfSpec)

/-- ITS FALSE NEIGHBOUR: 'it returns false'. Refute it at one input. -/
def fnExactWorstOfWrong : ChangeSpec := { name := "fnExactWorstOf", fn := fun _ => fun
  | [d1, d2] => { results := [.lit (.bool false)], args := [d1, d2] }
  | _ => none }
def FnExactWorstOfWrongFalsely : Prop := fnExactWorstOfRow.holds Try.pinned (OpenSpec.ofChange fnExactWorstOfWrong)

/-- 'laws.FnExactAreBest': WHATEVER THE INPUT: true; the input reads as it did. -/
def fnExactAreBestSpec : ChangeSpec := { name := "fnExactAreBest", fn := fun _ => fun
  | [d1, d2, d3] => { results := [.lit (.bool true)], args := [d1, d2, d3] }
  | _ => none }
def fnExactAreBestRow : OpenClaim := { program := "ytibliobcbbhopaa", sum := "dcadb63b547ab471e57230c107c8bcbee06206d91f761521e02f5c3c07e8c55c", func := "loop.example/strategiesthatspread/laws.FnExactAreBest", spec := "fnExactAreBest", apart := false }
def FnExactAreBestSaid : Prop := fnExactAreBestRow.holds Try.pinned (OpenSpec.ofChange fnExactAreBestSpec)

/-- ITS FALSE NEIGHBOUR: 'it returns false'. Refute it at one input. -/
def fnExactAreBestWrong : ChangeSpec := { name := "fnExactAreBest", fn := fun _ => fun
  | [d1, d2, d3] => { results := [.lit (.bool false)], args := [d1, d2, d3] }
  | _ => none }
def FnExactAreBestWrongFalsely : Prop := fnExactAreBestRow.holds Try.pinned (OpenSpec.ofChange fnExactAreBestWrong)

/- THE SECOND FORM. 'bulk': how many values and letters a reading holds, each counted each time it is reached (what is shared counts as often as it is met; a slice's spare places count too). A statement '..UptoSaid' is the law's where the arguments, and the package variables that the reading takes, are together of bulk at most 1048576: NARROWER than '..Said'. Prove '..Said' where nothing that the law and all that it calls make is longer than what came in: it says more and counts as full. Else prove '..UptoSaid'. A law counts once. -/
mutual
def uptoBulk {H : Type} : DataW H → Nat
  | .lit (.string bytes) => bytes.length + 1
  | .lit _ => 1
  | .nil => 1
  | .ptr d => uptoBulk d + 1
  | .slice elems spare => uptoBulkAll elems + uptoBulkAll spare + 1
  | .agg parts => uptoBulkAll parts + 1
  | .iface _ d => uptoBulk d + 1
  | .map entries => uptoBulkEntries entries + 1
  | .held _ => 1
def uptoBulkAll {H : Type} : List (DataW H) → Nat
  | [] => 0
  | d :: r => uptoBulk d + uptoBulkAll r
def uptoBulkEntries {H : Type} : List (Lit × DataW H) → Nat
  | [] => 0
  | x :: r => uptoBulkEntry x + uptoBulkEntries r
def uptoBulkEntry {H : Type} : Lit × DataW H → Nat
  | (.string bytes, d) => bytes.length + uptoBulk d + 1
  | (_, d) => uptoBulk d + 1
 end
def uptoSmall : (H : Type) → List (DataW H) → Bool := fun _ ds => decide (uptoBulkAll ds ≤ 1048576)
def OpenSpec.upto (s : _root_.Go.ChangeSpec) : _root_.Go.OpenSpec := { _root_.Go.OpenSpec.ofChange s with cond := some uptoSmall }

/-- 'laws.FnValidGame', WHERE WHAT IT READS IS OF BULK AT MOST 1048576: true; the input reads as it did. -/
def fnValidGameUptoRow : OpenClaim := { program := "ytibliobcbbhopaa", sum := "dcadb63b547ab471e57230c107c8bcbee06206d91f761521e02f5c3c07e8c55c", func := "loop.example/strategiesthatspread/laws.FnValidGame", spec := "fnValidGame", apart := false, narrowed := true }
def FnValidGameUptoSaid : Prop := fnValidGameUptoRow.holds Try.pinned (OpenSpec.upto fnValidGameSpec)

/-- 'laws.FnLeftOver', WHERE WHAT IT READS IS OF BULK AT MOST 1048576: true; the input reads as it did. -/
def fnLeftOverUptoRow : OpenClaim := { program := "ytibliobcbbhopaa", sum := "dcadb63b547ab471e57230c107c8bcbee06206d91f761521e02f5c3c07e8c55c", func := "loop.example/strategiesthatspread/laws.FnLeftOver", spec := "fnLeftOver", apart := false, narrowed := true }
def FnLeftOverUptoSaid : Prop := fnLeftOverUptoRow.holds Try.pinned (OpenSpec.upto fnLeftOverSpec)

/-- 'laws.FnNoRounds', WHERE WHAT IT READS IS OF BULK AT MOST 1048576: true; the input reads as it did. -/
def fnNoRoundsUptoRow : OpenClaim := { program := "ytibliobcbbhopaa", sum := "dcadb63b547ab471e57230c107c8bcbee06206d91f761521e02f5c3c07e8c55c", func := "loop.example/strategiesthatspread/laws.FnNoRounds", spec := "fnNoRounds", apart := false, narrowed := true }
def FnNoRoundsUptoSaid : Prop := fnNoRoundsUptoRow.holds Try.pinned (OpenSpec.upto fnNoRoundsSpec)

/-- 'laws.FnValidShares', WHERE WHAT IT READS IS OF BULK AT MOST 1048576: true; the input reads as it did. -/
def fnValidSharesUptoRow : OpenClaim := { program := "ytibliobcbbhopaa", sum := "dcadb63b547ab471e57230c107c8bcbee06206d91f761521e02f5c3c07e8c55c", func := "loop.example/strategiesthatspread/laws.FnValidShares", spec := "fnValidShares", apart := false, narrowed := true }
def FnValidSharesUptoSaid : Prop := fnValidSharesUptoRow.holds Try.pinned (OpenSpec.upto fnValidSharesSpec)

/-- 'laws.FnExactLeftOver', WHERE WHAT IT READS IS OF BULK AT MOST 1048576: true; the input reads as it did. -/
def fnExactLeftOverUptoRow : OpenClaim := { program := "ytibliobcbbhopaa", sum := "dcadb63b547ab471e57230c107c8bcbee06206d91f761521e02f5c3c07e8c55c", func := "loop.example/strategiesthatspread/laws.FnExactLeftOver", spec := "fnExactLeftOver", apart := false, narrowed := true }
def FnExactLeftOverUptoSaid : Prop := fnExactLeftOverUptoRow.holds Try.pinned (OpenSpec.upto fnExactLeftOverSpec)

/-- 'laws.FnExactPotentialOf', WHERE WHAT IT READS IS OF BULK AT MOST 1048576: true; the input reads as it did. -/
def fnExactPotentialOfUptoRow : OpenClaim := { program := "ytibliobcbbhopaa", sum := "dcadb63b547ab471e57230c107c8bcbee06206d91f761521e02f5c3c07e8c55c", func := "loop.example/strategiesthatspread/laws.FnExactPotentialOf", spec := "fnExactPotentialOf", apart := false, narrowed := true }
def FnExactPotentialOfUptoSaid : Prop := fnExactPotentialOfUptoRow.holds Try.pinned (OpenSpec.upto fnExactPotentialOfSpec)

/-- 'laws.FnExactValidShares', WHERE WHAT IT READS IS OF BULK AT MOST 1048576: true; the input reads as it did. -/
def fnExactValidSharesUptoRow : OpenClaim := { program := "ytibliobcbbhopaa", sum := "dcadb63b547ab471e57230c107c8bcbee06206d91f761521e02f5c3c07e8c55c", func := "loop.example/strategiesthatspread/laws.FnExactValidShares", spec := "fnExactValidShares", apart := false, narrowed := true }
def FnExactValidSharesUptoSaid : Prop := fnExactValidSharesUptoRow.holds Try.pinned (OpenSpec.upto fnExactValidSharesSpec)

/-- 'laws.FnExactPayOf', WHERE WHAT IT READS IS OF BULK AT MOST 1048576: true; the input reads as it did. -/
def fnExactPayOfUptoRow : OpenClaim := { program := "ytibliobcbbhopaa", sum := "dcadb63b547ab471e57230c107c8bcbee06206d91f761521e02f5c3c07e8c55c", func := "loop.example/strategiesthatspread/laws.FnExactPayOf", spec := "fnExactPayOf", apart := false, narrowed := true }
def FnExactPayOfUptoSaid : Prop := fnExactPayOfUptoRow.holds Try.pinned (OpenSpec.upto fnExactPayOfSpec)

/-- 'laws.FnExactWorstOf', WHERE WHAT IT READS IS OF BULK AT MOST 1048576: true; the input reads as it did. -/
def fnExactWorstOfUptoRow : OpenClaim := { program := "ytibliobcbbhopaa", sum := "dcadb63b547ab471e57230c107c8bcbee06206d91f761521e02f5c3c07e8c55c", func := "loop.example/strategiesthatspread/laws.FnExactWorstOf", spec := "fnExactWorstOf", apart := false, narrowed := true }
def FnExactWorstOfUptoSaid : Prop := fnExactWorstOfUptoRow.holds Try.pinned (OpenSpec.upto fnExactWorstOfSpec)

/-- 'laws.FnExactAreBest', WHERE WHAT IT READS IS OF BULK AT MOST 1048576: true; the input reads as it did. -/
def fnExactAreBestUptoRow : OpenClaim := { program := "ytibliobcbbhopaa", sum := "dcadb63b547ab471e57230c107c8bcbee06206d91f761521e02f5c3c07e8c55c", func := "loop.example/strategiesthatspread/laws.FnExactAreBest", spec := "fnExactAreBest", apart := false, narrowed := true }
def FnExactAreBestUptoSaid : Prop := fnExactAreBestUptoRow.holds Try.pinned (OpenSpec.upto fnExactAreBestSpec)

end Rows
end Go.Proofs.Ytibliobcbbhopaa
