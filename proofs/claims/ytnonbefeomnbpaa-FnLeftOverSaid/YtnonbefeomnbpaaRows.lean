/-
  No cell of these rows narrows 'for every input' (looked for: loops, veiled, ifaces, maps, wideKeys, modest, calm, conditions, laid).
  DERIVED. THE GIVEN ROWS OF THIS SEAT. 11 by the template 'for every input the law returns true; each argument reads behind the call as it read before'; 0 by the template 'total and deterministic' (their statements: YtnonbefeomnbpaaTotals.lean).
  GIVEN WITH THE SEED: the statements are not yours to turn. If you find one false, say at which input.
  Laid BY PROGRAM, IN A SANDBOX (cutbox-rows.mjs): the forced cells as the released guide's own fill.sh prints them over the translation bca287ed1da2cccf… (all of the seat's roots in one cut). By AI agents, Wed Nov 11 2026. No macro, syntax, notation, axiom, sorry.
-/
import Derived.Test.YtnonbefeomnbpaaChecked
import GoSem.Claim
import GoSem.ClaimJoined
import GoSem.ClaimMapViews
import Derived.JoinedTies
import Derived.KernelRfl
namespace Go.Proofs.Ytnonbefeomnbpaa
/- THE CELL 'sum', in the pinned program and in every row, IS THE sha256 OF THE DUMP (.gsa) THAT YtnonbefeomnbpaaProg.lean LOADS. Nothing in Lean hashes anything: it is a label: what it is worth is what the hold of that sum in a sandbox is worth. -/
noncomputable def Try.pinned : Pinned := { name := "ytnonbefeomnbpaa", sum := "bca287ed1da2cccf33ec3194da7b5f2eafa5998d74d3c79bc3aeb88ece590f0a", checked := Try.checked }
namespace Rows
def none {H : Type} : Left H := { results := [], args := [] }

/-- 'laws.FnValidTable': WHATEVER THE INPUT: true; the input reads as it did. -/
def fnValidTableSpec : ChangeSpec := { name := "fnValidTable", fn := fun _ => fun
  | [d] => { results := [.lit (.bool true)], args := [d] }
  | _ => none }
def fnValidTableRow : OpenClaim := { program := "ytnonbefeomnbpaa", sum := "bca287ed1da2cccf33ec3194da7b5f2eafa5998d74d3c79bc3aeb88ece590f0a", func := "loop.example/strategiesthatspread/laws.FnValidTable", spec := "fnValidTable", apart := false }
def FnValidTableSaid : Prop := fnValidTableRow.holds Try.pinned (OpenSpec.ofChange fnValidTableSpec)

/-- ITS FALSE NEIGHBOUR: 'it returns false'. Refute it at one input. -/
def fnValidTableWrong : ChangeSpec := { name := "fnValidTable", fn := fun _ => fun
  | [d] => { results := [.lit (.bool false)], args := [d] }
  | _ => none }
def FnValidTableWrongFalsely : Prop := fnValidTableRow.holds Try.pinned (OpenSpec.ofChange fnValidTableWrong)

/-- 'laws.FnValidGame': WHATEVER THE INPUT: true; the input reads as it did. -/
def fnValidGameSpec : ChangeSpec := { name := "fnValidGame", fn := fun _ => fun
  | [d] => { results := [.lit (.bool true)], args := [d] }
  | _ => none }
def fnValidGameRow : OpenClaim := { program := "ytnonbefeomnbpaa", sum := "bca287ed1da2cccf33ec3194da7b5f2eafa5998d74d3c79bc3aeb88ece590f0a", func := "loop.example/strategiesthatspread/laws.FnValidGame", spec := "fnValidGame", apart := false }
def FnValidGameSaid : Prop := fnValidGameRow.holds Try.pinned (OpenSpec.ofChange fnValidGameSpec)

/-- ITS FALSE NEIGHBOUR: 'it returns false'. Refute it at one input. -/
def fnValidGameWrong : ChangeSpec := { name := "fnValidGame", fn := fun _ => fun
  | [d] => { results := [.lit (.bool false)], args := [d] }
  | _ => none }
def FnValidGameWrongFalsely : Prop := fnValidGameRow.holds Try.pinned (OpenSpec.ofChange fnValidGameWrong)

/-- 'laws.FnPureRests': WHATEVER THE INPUT: true; the input reads as it did. -/
def fnPureRestsSpec : ChangeSpec := { name := "fnPureRests", fn := fun _ => fun
  | [d] => { results := [.lit (.bool true)], args := [d] }
  | _ => none }
def fnPureRestsRow : OpenClaim := { program := "ytnonbefeomnbpaa", sum := "bca287ed1da2cccf33ec3194da7b5f2eafa5998d74d3c79bc3aeb88ece590f0a", func := "loop.example/strategiesthatspread/laws.FnPureRests", spec := "fnPureRests", apart := false }
def FnPureRestsSaid : Prop := fnPureRestsRow.holds Try.pinned (OpenSpec.ofChange fnPureRestsSpec)

/-- ITS FALSE NEIGHBOUR: 'it returns false'. Refute it at one input. -/
def fnPureRestsWrong : ChangeSpec := { name := "fnPureRests", fn := fun _ => fun
  | [d] => { results := [.lit (.bool false)], args := [d] }
  | _ => none }
def FnPureRestsWrongFalsely : Prop := fnPureRestsRow.holds Try.pinned (OpenSpec.ofChange fnPureRestsWrong)

/-- 'laws.FnNoRounds': WHATEVER THE INPUT: true; the input reads as it did. -/
def fnNoRoundsSpec : ChangeSpec := { name := "fnNoRounds", fn := fun _ => fun
  | [d] => { results := [.lit (.bool true)], args := [d] }
  | _ => none }
def fnNoRoundsRow : OpenClaim := { program := "ytnonbefeomnbpaa", sum := "bca287ed1da2cccf33ec3194da7b5f2eafa5998d74d3c79bc3aeb88ece590f0a", func := "loop.example/strategiesthatspread/laws.FnNoRounds", spec := "fnNoRounds", apart := false }
def FnNoRoundsSaid : Prop := fnNoRoundsRow.holds Try.pinned (OpenSpec.ofChange fnNoRoundsSpec)

/-- ITS FALSE NEIGHBOUR: 'it returns false'. Refute it at one input. -/
def fnNoRoundsWrong : ChangeSpec := { name := "fnNoRounds", fn := fun _ => fun
  | [d] => { results := [.lit (.bool false)], args := [d] }
  | _ => none }
def FnNoRoundsWrongFalsely : Prop := fnNoRoundsRow.holds Try.pinned (OpenSpec.ofChange fnNoRoundsWrong)

/-- 'laws.FnExactValidTable': WHATEVER THE INPUT: true; the input reads as it did. -/
def fnExactValidTableSpec : ChangeSpec := { name := "fnExactValidTable", fn := fun _ => fun
  | [d] => { results := [.lit (.bool true)], args := [d] }
  | _ => none }
def fnExactValidTableRow : OpenClaim := { program := "ytnonbefeomnbpaa", sum := "bca287ed1da2cccf33ec3194da7b5f2eafa5998d74d3c79bc3aeb88ece590f0a", func := "loop.example/strategiesthatspread/laws.FnExactValidTable", spec := "fnExactValidTable", apart := false }
def FnExactValidTableSaid : Prop := fnExactValidTableRow.holds Try.pinned (OpenSpec.ofChange fnExactValidTableSpec)

/-- ITS FALSE NEIGHBOUR: 'it returns false'. Refute it at one input. -/
def fnExactValidTableWrong : ChangeSpec := { name := "fnExactValidTable", fn := fun _ => fun
  | [d] => { results := [.lit (.bool false)], args := [d] }
  | _ => none }
def FnExactValidTableWrongFalsely : Prop := fnExactValidTableRow.holds Try.pinned (OpenSpec.ofChange fnExactValidTableWrong)

/-- 'laws.FnExactValidGame': WHATEVER THE INPUT: true; the input reads as it did. -/
def fnExactValidGameSpec : ChangeSpec := { name := "fnExactValidGame", fn := fun _ => fun
  | [d] => { results := [.lit (.bool true)], args := [d] }
  | _ => none }
def fnExactValidGameRow : OpenClaim := { program := "ytnonbefeomnbpaa", sum := "bca287ed1da2cccf33ec3194da7b5f2eafa5998d74d3c79bc3aeb88ece590f0a", func := "loop.example/strategiesthatspread/laws.FnExactValidGame", spec := "fnExactValidGame", apart := false }
def FnExactValidGameSaid : Prop := fnExactValidGameRow.holds Try.pinned (OpenSpec.ofChange fnExactValidGameSpec)

/-- ITS FALSE NEIGHBOUR: 'it returns false'. Refute it at one input. -/
def fnExactValidGameWrong : ChangeSpec := { name := "fnExactValidGame", fn := fun _ => fun
  | [d] => { results := [.lit (.bool false)], args := [d] }
  | _ => none }
def FnExactValidGameWrongFalsely : Prop := fnExactValidGameRow.holds Try.pinned (OpenSpec.ofChange fnExactValidGameWrong)

/-- 'laws.FnExactPureRests': WHATEVER THE INPUT: true; the input reads as it did. -/
def fnExactPureRestsSpec : ChangeSpec := { name := "fnExactPureRests", fn := fun _ => fun
  | [d] => { results := [.lit (.bool true)], args := [d] }
  | _ => none }
def fnExactPureRestsRow : OpenClaim := { program := "ytnonbefeomnbpaa", sum := "bca287ed1da2cccf33ec3194da7b5f2eafa5998d74d3c79bc3aeb88ece590f0a", func := "loop.example/strategiesthatspread/laws.FnExactPureRests", spec := "fnExactPureRests", apart := false }
def FnExactPureRestsSaid : Prop := fnExactPureRestsRow.holds Try.pinned (OpenSpec.ofChange fnExactPureRestsSpec)

/-- ITS FALSE NEIGHBOUR: 'it returns false'. Refute it at one input. -/
def fnExactPureRestsWrong : ChangeSpec := { name := "fnExactPureRests", fn := fun _ => fun
  | [d] => { results := [.lit (.bool false)], args := [d] }
  | _ => none }
def FnExactPureRestsWrongFalsely : Prop := fnExactPureRestsRow.holds Try.pinned (OpenSpec.ofChange fnExactPureRestsWrong)

/-- 'laws.FnExactSafeRow': WHATEVER THE INPUT: true; the input reads as it did. -/
def fnExactSafeRowSpec : ChangeSpec := { name := "fnExactSafeRow", fn := fun _ => fun
  | [d] => { results := [.lit (.bool true)], args := [d] }
  | _ => none }
def fnExactSafeRowRow : OpenClaim := { program := "ytnonbefeomnbpaa", sum := "bca287ed1da2cccf33ec3194da7b5f2eafa5998d74d3c79bc3aeb88ece590f0a", func := "loop.example/strategiesthatspread/laws.FnExactSafeRow", spec := "fnExactSafeRow", apart := false }
def FnExactSafeRowSaid : Prop := fnExactSafeRowRow.holds Try.pinned (OpenSpec.ofChange fnExactSafeRowSpec)

/-- ITS FALSE NEIGHBOUR: 'it returns false'. Refute it at one input. -/
def fnExactSafeRowWrong : ChangeSpec := { name := "fnExactSafeRow", fn := fun _ => fun
  | [d] => { results := [.lit (.bool false)], args := [d] }
  | _ => none }
def FnExactSafeRowWrongFalsely : Prop := fnExactSafeRowRow.holds Try.pinned (OpenSpec.ofChange fnExactSafeRowWrong)

/-- 'laws.FnExactNoRounds': WHATEVER THE INPUT: true; the input reads as it did. -/
def fnExactNoRoundsSpec : ChangeSpec := { name := "fnExactNoRounds", fn := fun _ => fun
  | [d] => { results := [.lit (.bool true)], args := [d] }
  | _ => none }
def fnExactNoRoundsRow : OpenClaim := { program := "ytnonbefeomnbpaa", sum := "bca287ed1da2cccf33ec3194da7b5f2eafa5998d74d3c79bc3aeb88ece590f0a", func := "loop.example/strategiesthatspread/laws.FnExactNoRounds", spec := "fnExactNoRounds", apart := false }
def FnExactNoRoundsSaid : Prop := fnExactNoRoundsRow.holds Try.pinned (OpenSpec.ofChange fnExactNoRoundsSpec)

/-- ITS FALSE NEIGHBOUR: 'it returns false'. Refute it at one input. -/
def fnExactNoRoundsWrong : ChangeSpec := { name := "fnExactNoRounds", fn := fun _ => fun
  | [d] => { results := [.lit (.bool false)], args := [d] }
  | _ => none }
def FnExactNoRoundsWrongFalsely : Prop := fnExactNoRoundsRow.holds Try.pinned (OpenSpec.ofChange fnExactNoRoundsWrong)

/-- 'laws.FnExactLeftOver': WHATEVER THE INPUT: true; the input reads as it did. -/
def fnExactLeftOverSpec : ChangeSpec := { name := "fnExactLeftOver", fn := fun _ => fun
  | [d] => { results := [.lit (.bool true)], args := [d] }
  | _ => none }
def fnExactLeftOverRow : OpenClaim := { program := "ytnonbefeomnbpaa", sum := "bca287ed1da2cccf33ec3194da7b5f2eafa5998d74d3c79bc3aeb88ece590f0a", func := "loop.example/strategiesthatspread/laws.FnExactLeftOver", spec := "fnExactLeftOver", apart := false }
def FnExactLeftOverSaid : Prop := fnExactLeftOverRow.holds Try.pinned (OpenSpec.ofChange fnExactLeftOverSpec)

/-- ITS FALSE NEIGHBOUR: 'it returns false'. Refute it at one input. -/
def fnExactLeftOverWrong : ChangeSpec := { name := "fnExactLeftOver", fn := fun _ => fun
  | [d] => { results := [.lit (.bool false)], args := [d] }
  | _ => none }
def FnExactLeftOverWrongFalsely : Prop := fnExactLeftOverRow.holds Try.pinned (OpenSpec.ofChange fnExactLeftOverWrong)

/-- 'laws.FnLeftOver': WHATEVER THE INPUT: true; the input reads as it did. -/
def fnLeftOverSpec : ChangeSpec := { name := "fnLeftOver", fn := fun _ => fun
  | [d] => { results := [.lit (.bool true)], args := [d] }
  | _ => none }
def fnLeftOverRow : OpenClaim := { program := "ytnonbefeomnbpaa", sum := "bca287ed1da2cccf33ec3194da7b5f2eafa5998d74d3c79bc3aeb88ece590f0a", func := "loop.example/strategiesthatspread/laws.FnLeftOver", spec := "fnLeftOver", apart := false }
def FnLeftOverSaid : Prop := fnLeftOverRow.holds Try.pinned (OpenSpec.ofChange fnLeftOverSpec)

/-- ITS FALSE NEIGHBOUR: 'it returns false'. Refute it at one input. -/
def fnLeftOverWrong : ChangeSpec := { name := "fnLeftOver", fn := fun _ => fun
  | [d] => { results := [.lit (.bool false)], args := [d] }
  | _ => none }
def FnLeftOverWrongFalsely : Prop := fnLeftOverRow.holds Try.pinned (OpenSpec.ofChange fnLeftOverWrong)

/- THE SECOND FORM. 'bulk': how many values and letters a reading holds, each counted each time it is reached (what is shared counts as often as it is met; a slice's spare places count too). A statement '..UptoSaid' is the law's where the arguments, and the package variables that the reading takes, are together of bulk at most 1048576: NARROWER than '..Said'. Prove '..Said' where nothing that the law and all that it calls make is longer than what came in: it says more and counts as full. Else prove '..UptoSaid'. A law counts once. -/
mutual
def uptoBulk {H : Type} : DataW H → Nat
  | .lit (.string bytes) => bytes.length + 1
  | .lit _ => 1
  | .nil => 1
  | .ptr d => uptoBulk d + 1
  | .slice elems spare => uptoBulkAll elems + uptoBulkAll spare + 1
  | .agg parts => uptoBulkAll parts + 1
  | .iface _ d => uptoBulk d + 1
  | .map entries => uptoBulkEntries entries + 1
  | .held _ => 1
def uptoBulkAll {H : Type} : List (DataW H) → Nat
  | [] => 0
  | d :: r => uptoBulk d + uptoBulkAll r
def uptoBulkEntries {H : Type} : List (Lit × DataW H) → Nat
  | [] => 0
  | x :: r => uptoBulkEntry x + uptoBulkEntries r
def uptoBulkEntry {H : Type} : Lit × DataW H → Nat
  | (.string bytes, d) => bytes.length + uptoBulk d + 1
  | (_, d) => uptoBulk d + 1
 end
def uptoSmall : (H : Type) → List (DataW H) → Bool := fun _ ds => decide (uptoBulkAll ds ≤ 1048576)
def OpenSpec.upto (s : _root_.Go.ChangeSpec) : _root_.Go.OpenSpec := { _root_.Go.OpenSpec.ofChange s with cond := some uptoSmall }

/-- 'laws.FnValidTable', WHERE WHAT IT READS IS OF BULK AT MOST 1048576: true; the input reads as it did. -/
def fnValidTableUptoRow : OpenClaim := { program := "ytnonbefeomnbpaa", sum := "bca287ed1da2cccf33ec3194da7b5f2eafa5998d74d3c79bc3aeb88ece590f0a", func := "loop.example/strategiesthatspread/laws.FnValidTable", spec := "fnValidTable", apart := false, narrowed := true }
def FnValidTableUptoSaid : Prop := fnValidTableUptoRow.holds Try.pinned (OpenSpec.upto fnValidTableSpec)

/-- 'laws.FnValidGame', WHERE WHAT IT READS IS OF BULK AT MOST 1048576: true; the input reads as it did. -/
def fnValidGameUptoRow : OpenClaim := { program := "ytnonbefeomnbpaa", sum := "bca287ed1da2cccf33ec3194da7b5f2eafa5998d74d3c79bc3aeb88ece590f0a", func := "loop.example/strategiesthatspread/laws.FnValidGame", spec := "fnValidGame", apart := false, narrowed := true }
def FnValidGameUptoSaid : Prop := fnValidGameUptoRow.holds Try.pinned (OpenSpec.upto fnValidGameSpec)

/-- 'laws.FnPureRests', WHERE WHAT IT READS IS OF BULK AT MOST 1048576: true; the input reads as it did. -/
def fnPureRestsUptoRow : OpenClaim := { program := "ytnonbefeomnbpaa", sum := "bca287ed1da2cccf33ec3194da7b5f2eafa5998d74d3c79bc3aeb88ece590f0a", func := "loop.example/strategiesthatspread/laws.FnPureRests", spec := "fnPureRests", apart := false, narrowed := true }
def FnPureRestsUptoSaid : Prop := fnPureRestsUptoRow.holds Try.pinned (OpenSpec.upto fnPureRestsSpec)

/-- 'laws.FnNoRounds', WHERE WHAT IT READS IS OF BULK AT MOST 1048576: true; the input reads as it did. -/
def fnNoRoundsUptoRow : OpenClaim := { program := "ytnonbefeomnbpaa", sum := "bca287ed1da2cccf33ec3194da7b5f2eafa5998d74d3c79bc3aeb88ece590f0a", func := "loop.example/strategiesthatspread/laws.FnNoRounds", spec := "fnNoRounds", apart := false, narrowed := true }
def FnNoRoundsUptoSaid : Prop := fnNoRoundsUptoRow.holds Try.pinned (OpenSpec.upto fnNoRoundsSpec)

/-- 'laws.FnExactValidTable', WHERE WHAT IT READS IS OF BULK AT MOST 1048576: true; the input reads as it did. -/
def fnExactValidTableUptoRow : OpenClaim := { program := "ytnonbefeomnbpaa", sum := "bca287ed1da2cccf33ec3194da7b5f2eafa5998d74d3c79bc3aeb88ece590f0a", func := "loop.example/strategiesthatspread/laws.FnExactValidTable", spec := "fnExactValidTable", apart := false, narrowed := true }
def FnExactValidTableUptoSaid : Prop := fnExactValidTableUptoRow.holds Try.pinned (OpenSpec.upto fnExactValidTableSpec)

/-- 'laws.FnExactValidGame', WHERE WHAT IT READS IS OF BULK AT MOST 1048576: true; the input reads as it did. -/
def fnExactValidGameUptoRow : OpenClaim := { program := "ytnonbefeomnbpaa", sum := "bca287ed1da2cccf33ec3194da7b5f2eafa5998d74d3c79bc3aeb88ece590f0a", func := "loop.example/strategiesthatspread/laws.FnExactValidGame", spec := "fnExactValidGame", apart := false, narrowed := true }
def FnExactValidGameUptoSaid : Prop := fnExactValidGameUptoRow.holds Try.pinned (OpenSpec.upto fnExactValidGameSpec)

/-- 'laws.FnExactPureRests', WHERE WHAT IT READS IS OF BULK AT MOST 1048576: true; the input reads as it did. -/
def fnExactPureRestsUptoRow : OpenClaim := { program := "ytnonbefeomnbpaa", sum := "bca287ed1da2cccf33ec3194da7b5f2eafa5998d74d3c79bc3aeb88ece590f0a", func := "loop.example/strategiesthatspread/laws.FnExactPureRests", spec := "fnExactPureRests", apart := false, narrowed := true }
def FnExactPureRestsUptoSaid : Prop := fnExactPureRestsUptoRow.holds Try.pinned (OpenSpec.upto fnExactPureRestsSpec)

/-- 'laws.FnExactSafeRow', WHERE WHAT IT READS IS OF BULK AT MOST 1048576: true; the input reads as it did. -/
def fnExactSafeRowUptoRow : OpenClaim := { program := "ytnonbefeomnbpaa", sum := "bca287ed1da2cccf33ec3194da7b5f2eafa5998d74d3c79bc3aeb88ece590f0a", func := "loop.example/strategiesthatspread/laws.FnExactSafeRow", spec := "fnExactSafeRow", apart := false, narrowed := true }
def FnExactSafeRowUptoSaid : Prop := fnExactSafeRowUptoRow.holds Try.pinned (OpenSpec.upto fnExactSafeRowSpec)

/-- 'laws.FnExactNoRounds', WHERE WHAT IT READS IS OF BULK AT MOST 1048576: true; the input reads as it did. -/
def fnExactNoRoundsUptoRow : OpenClaim := { program := "ytnonbefeomnbpaa", sum := "bca287ed1da2cccf33ec3194da7b5f2eafa5998d74d3c79bc3aeb88ece590f0a", func := "loop.example/strategiesthatspread/laws.FnExactNoRounds", spec := "fnExactNoRounds", apart := false, narrowed := true }
def FnExactNoRoundsUptoSaid : Prop := fnExactNoRoundsUptoRow.holds Try.pinned (OpenSpec.upto fnExactNoRoundsSpec)

/-- 'laws.FnExactLeftOver', WHERE WHAT IT READS IS OF BULK AT MOST 1048576: true; the input reads as it did. -/
def fnExactLeftOverUptoRow : OpenClaim := { program := "ytnonbefeomnbpaa", sum := "bca287ed1da2cccf33ec3194da7b5f2eafa5998d74d3c79bc3aeb88ece590f0a", func := "loop.example/strategiesthatspread/laws.FnExactLeftOver", spec := "fnExactLeftOver", apart := false, narrowed := true }
def FnExactLeftOverUptoSaid : Prop := fnExactLeftOverUptoRow.holds Try.pinned (OpenSpec.upto fnExactLeftOverSpec)

/-- 'laws.FnLeftOver', WHERE WHAT IT READS IS OF BULK AT MOST 1048576: true; the input reads as it did. -/
def fnLeftOverUptoRow : OpenClaim := { program := "ytnonbefeomnbpaa", sum := "bca287ed1da2cccf33ec3194da7b5f2eafa5998d74d3c79bc3aeb88ece590f0a", func := "loop.example/strategiesthatspread/laws.FnLeftOver", spec := "fnLeftOver", apart := false, narrowed := true }
def FnLeftOverUptoSaid : Prop := fnLeftOverUptoRow.holds Try.pinned (OpenSpec.upto fnLeftOverSpec)

end Rows
end Go.Proofs.Ytnonbefeomnbpaa
