/-
  No cell of these rows narrows 'for every input' (looked for: loops, veiled, ifaces, maps, wideKeys, modest, calm, conditions, laid).
  DERIVED. THE GIVEN ROWS OF THIS SEAT. 9 by the template 'for every input the law returns true; each argument reads behind the call as it read before'; 0 by the template 'total and deterministic' (their statements: YtolnbkplgnpfjaaTotals.lean).
  GIVEN WITH THE SEED: the statements are not yours to turn. If you find one false, say at which input.
  Laid BY PROGRAM, IN A SANDBOX (cutbox-rows.mjs): the forced cells as the released guide's own fill.sh prints them over the translation 28e5a0f0f2973282… (all of the seat's roots in one cut). By AI agents, Wed Nov 11 2026. No macro, syntax, notation, axiom, sorry.
-/
import Derived.Test.YtolnbkplgnpfjaaChecked
import GoSem.Claim
import GoSem.ClaimJoined
import GoSem.ClaimMapViews
import Derived.JoinedTies
import Derived.KernelRfl
namespace Go.Proofs.Ytolnbkplgnpfjaa
/- THE CELL 'sum', in the pinned program and in every row, IS THE sha256 OF THE DUMP (.gsa) THAT YtolnbkplgnpfjaaProg.lean LOADS. Nothing in Lean hashes anything: it is a label: what it is worth is what the hold of that sum in a sandbox is worth. -/
noncomputable def Try.pinned : Pinned := { name := "ytolnbkplgnpfjaa", sum := "28e5a0f0f29732820fb5679a6182715c2739cf8467bbb37d4815a10071e25034", checked := Try.checked }
namespace Rows
def none {H : Type} : Left H := { results := [], args := [] }

/-- 'laws.FnLeftOver': WHATEVER THE INPUT: true; the input reads as it did. -/
def fnLeftOverSpec : ChangeSpec := { name := "fnLeftOver", fn := fun _ => fun
  | [d] => { results := [.lit (.bool true)], args := [d] }
  | _ => none }
def fnLeftOverRow : OpenClaim := { program := "ytolnbkplgnpfjaa", sum := "28e5a0f0f29732820fb5679a6182715c2739cf8467bbb37d4815a10071e25034", func := "loop.example/strategiesthatspread/laws.FnLeftOver", spec := "fnLeftOver", apart := false }
def FnLeftOverSaid : Prop := fnLeftOverRow.holds Try.pinned (OpenSpec.ofChange fnLeftOverSpec)

/-- ITS FALSE NEIGHBOUR: 'it returns false'. Refute it at one input. -/
def fnLeftOverWrong : ChangeSpec := { name := "fnLeftOver", fn := fun _ => fun
  | [d] => { results := [.lit (.bool false)], args := [d] }
  | _ => none }
def FnLeftOverWrongFalsely : Prop := fnLeftOverRow.holds Try.pinned (OpenSpec.ofChange fnLeftOverWrong)

/-- 'laws.FnFixedOnes': WHATEVER THE INPUT: true; the input reads as it did. -/
def fnFixedOnesSpec : ChangeSpec := { name := "fnFixedOnes", fn := fun _ => fun
  | [d] => { results := [.lit (.bool true)], args := [d] }
  | _ => none }
def fnFixedOnesRow : OpenClaim := { program := "ytolnbkplgnpfjaa", sum := "28e5a0f0f29732820fb5679a6182715c2739cf8467bbb37d4815a10071e25034", func := "loop.example/strategiesthatspread/laws.FnFixedOnes", spec := "fnFixedOnes", unfollowed := true, recurses := true, apart := false }
def FnFixedOnesSaid : Prop := fnFixedOnesRow.holds Try.pinned (OpenSpec.ofChange fnFixedOnesSpec)

/-- ITS FALSE NEIGHBOUR: 'it returns false'. Refute it at one input. -/
def fnFixedOnesWrong : ChangeSpec := { name := "fnFixedOnes", fn := fun _ => fun
  | [d] => { results := [.lit (.bool false)], args := [d] }
  | _ => none }
def FnFixedOnesWrongFalsely : Prop := fnFixedOnesRow.holds Try.pinned (OpenSpec.ofChange fnFixedOnesWrong)

/-- 'laws.FnBirthDrift': WHATEVER THE INPUT: true; the input reads as it did. -/
def fnBirthDriftSpec : ChangeSpec := { name := "fnBirthDrift", fn := fun _ => fun
  | [d] => { results := [.lit (.bool true)], args := [d] }
  | _ => none }
def fnBirthDriftRow : OpenClaim := { program := "ytolnbkplgnpfjaa", sum := "28e5a0f0f29732820fb5679a6182715c2739cf8467bbb37d4815a10071e25034", func := "loop.example/strategiesthatspread/laws.FnBirthDrift", spec := "fnBirthDrift", apart := false }
def FnBirthDriftSaid : Prop := fnBirthDriftRow.holds Try.pinned (OpenSpec.ofChange fnBirthDriftSpec)

/-- ITS FALSE NEIGHBOUR: 'it returns false'. Refute it at one input. -/
def fnBirthDriftWrong : ChangeSpec := { name := "fnBirthDrift", fn := fun _ => fun
  | [d] => { results := [.lit (.bool false)], args := [d] }
  | _ => none }
def FnBirthDriftWrongFalsely : Prop := fnBirthDriftRow.holds Try.pinned (OpenSpec.ofChange fnBirthDriftWrong)

/-- 'laws.FnDeathDrift': WHATEVER THE INPUT: true; the input reads as it did. -/
def fnDeathDriftSpec : ChangeSpec := { name := "fnDeathDrift", fn := fun _ => fun
  | [d] => { results := [.lit (.bool true)], args := [d] }
  | _ => none }
def fnDeathDriftRow : OpenClaim := { program := "ytolnbkplgnpfjaa", sum := "28e5a0f0f29732820fb5679a6182715c2739cf8467bbb37d4815a10071e25034", func := "loop.example/strategiesthatspread/laws.FnDeathDrift", spec := "fnDeathDrift", apart := false }
def FnDeathDriftSaid : Prop := fnDeathDriftRow.holds Try.pinned (OpenSpec.ofChange fnDeathDriftSpec)

/-- ITS FALSE NEIGHBOUR: 'it returns false'. Refute it at one input. -/
def fnDeathDriftWrong : ChangeSpec := { name := "fnDeathDrift", fn := fun _ => fun
  | [d] => { results := [.lit (.bool false)], args := [d] }
  | _ => none }
def FnDeathDriftWrongFalsely : Prop := fnDeathDriftRow.holds Try.pinned (OpenSpec.ofChange fnDeathDriftWrong)

/-- 'laws.FnPlaceChances': WHATEVER THE INPUT: true; the input reads as it did. -/
def fnPlaceChancesSpec : ChangeSpec := { name := "fnPlaceChances", fn := fun _ => fun
  | [d] => { results := [.lit (.bool true)], args := [d] }
  | _ => none }
def fnPlaceChancesRow : OpenClaim := { program := "ytolnbkplgnpfjaa", sum := "28e5a0f0f29732820fb5679a6182715c2739cf8467bbb37d4815a10071e25034", func := "loop.example/strategiesthatspread/laws.FnPlaceChances", spec := "fnPlaceChances", apart := false }
def FnPlaceChancesSaid : Prop := fnPlaceChancesRow.holds Try.pinned (OpenSpec.ofChange fnPlaceChancesSpec)

/-- ITS FALSE NEIGHBOUR: 'it returns false'. Refute it at one input. -/
def fnPlaceChancesWrong : ChangeSpec := { name := "fnPlaceChances", fn := fun _ => fun
  | [d] => { results := [.lit (.bool false)], args := [d] }
  | _ => none }
def FnPlaceChancesWrongFalsely : Prop := fnPlaceChancesRow.holds Try.pinned (OpenSpec.ofChange fnPlaceChancesWrong)

/-- 'laws.FnEvenHasPotential': WHATEVER THE INPUT: true; the input reads as it did. -/
def fnEvenHasPotentialSpec : ChangeSpec := { name := "fnEvenHasPotential", fn := fun _ => fun
  | [d] => { results := [.lit (.bool true)], args := [d] }
  | _ => none }
def fnEvenHasPotentialRow : OpenClaim := { program := "ytolnbkplgnpfjaa", sum := "28e5a0f0f29732820fb5679a6182715c2739cf8467bbb37d4815a10071e25034", func := "loop.example/strategiesthatspread/laws.FnEvenHasPotential", spec := "fnEvenHasPotential", apart := false }
def FnEvenHasPotentialSaid : Prop := fnEvenHasPotentialRow.holds Try.pinned (OpenSpec.ofChange fnEvenHasPotentialSpec)

/-- ITS FALSE NEIGHBOUR: 'it returns false'. Refute it at one input. -/
def fnEvenHasPotentialWrong : ChangeSpec := { name := "fnEvenHasPotential", fn := fun _ => fun
  | [d] => { results := [.lit (.bool false)], args := [d] }
  | _ => none }
def FnEvenHasPotentialWrongFalsely : Prop := fnEvenHasPotentialRow.holds Try.pinned (OpenSpec.ofChange fnEvenHasPotentialWrong)

/-- 'laws.FnEvenGraphsAreFair': WHATEVER THE INPUT: true; the input reads as it did. -/
def fnEvenGraphsAreFairSpec : ChangeSpec := { name := "fnEvenGraphsAreFair", fn := fun _ => fun
  | [d] => { results := [.lit (.bool true)], args := [d] }
  | _ => none }
def fnEvenGraphsAreFairRow : OpenClaim := { program := "ytolnbkplgnpfjaa", sum := "28e5a0f0f29732820fb5679a6182715c2739cf8467bbb37d4815a10071e25034", func := "loop.example/strategiesthatspread/laws.FnEvenGraphsAreFair", spec := "fnEvenGraphsAreFair", apart := false }
def FnEvenGraphsAreFairSaid : Prop := fnEvenGraphsAreFairRow.holds Try.pinned (OpenSpec.ofChange fnEvenGraphsAreFairSpec)

/-- ITS FALSE NEIGHBOUR: 'it returns false'. Refute it at one input. -/
def fnEvenGraphsAreFairWrong : ChangeSpec := { name := "fnEvenGraphsAreFair", fn := fun _ => fun
  | [d] => { results := [.lit (.bool false)], args := [d] }
  | _ => none }
def FnEvenGraphsAreFairWrongFalsely : Prop := fnEvenGraphsAreFairRow.holds Try.pinned (OpenSpec.ofChange fnEvenGraphsAreFairWrong)

/-- 'laws.FnExactLeftOver': WHATEVER THE INPUT: true; the input reads as it did. -/
def fnExactLeftOverSpec : ChangeSpec := { name := "fnExactLeftOver", fn := fun _ => fun
  | [d] => { results := [.lit (.bool true)], args := [d] }
  | _ => none }
def fnExactLeftOverRow : OpenClaim := { program := "ytolnbkplgnpfjaa", sum := "28e5a0f0f29732820fb5679a6182715c2739cf8467bbb37d4815a10071e25034", func := "loop.example/strategiesthatspread/laws.FnExactLeftOver", spec := "fnExactLeftOver", apart := false }
def FnExactLeftOverSaid : Prop := fnExactLeftOverRow.holds Try.pinned (OpenSpec.ofChange fnExactLeftOverSpec)

/-- ITS FALSE NEIGHBOUR: 'it returns false'. Refute it at one input. -/
def fnExactLeftOverWrong : ChangeSpec := { name := "fnExactLeftOver", fn := fun _ => fun
  | [d] => { results := [.lit (.bool false)], args := [d] }
  | _ => none }
def FnExactLeftOverWrongFalsely : Prop := fnExactLeftOverRow.holds Try.pinned (OpenSpec.ofChange fnExactLeftOverWrong)

/-- 'laws.FnExactPotentialOf': WHATEVER THE INPUT: true; the input reads as it did. -/
def fnExactPotentialOfSpec : ChangeSpec := { name := "fnExactPotentialOf", fn := fun _ => fun
  | [d] => { results := [.lit (.bool true)], args := [d] }
  | _ => none }
def fnExactPotentialOfRow : OpenClaim := { program := "ytolnbkplgnpfjaa", sum := "28e5a0f0f29732820fb5679a6182715c2739cf8467bbb37d4815a10071e25034", func := "loop.example/strategiesthatspread/laws.FnExactPotentialOf", spec := "fnExactPotentialOf", apart := false }
def FnExactPotentialOfSaid : Prop := fnExactPotentialOfRow.holds Try.pinned (OpenSpec.ofChange fnExactPotentialOfSpec)

/-- ITS FALSE NEIGHBOUR: 'it returns false'. Refute it at one input. -/
def fnExactPotentialOfWrong : ChangeSpec := { name := "fnExactPotentialOf", fn := fun _ => fun
  | [d] => { results := [.lit (.bool false)], args := [d] }
  | _ => none }
def FnExactPotentialOfWrongFalsely : Prop := fnExactPotentialOfRow.holds Try.pinned (OpenSpec.ofChange fnExactPotentialOfWrong)

/- THE SECOND FORM. 'bulk': how many values and letters a reading holds, each counted each time it is reached (what is shared counts as often as it is met; a slice's spare places count too). A statement '..UptoSaid' is the law's where the arguments, and the package variables that the reading takes, are together of bulk at most 1048576: NARROWER than '..Said'. Prove '..Said' where nothing that the law and all that it calls make is longer than what came in: it says more and counts as full. Else prove '..UptoSaid'. A law counts once. -/
mutual
def uptoBulk {H : Type} : DataW H → Nat
  | .lit (.string bytes) => bytes.length + 1
  | .lit _ => 1
  | .nil => 1
  | .ptr d => uptoBulk d + 1
  | .slice elems spare => uptoBulkAll elems + uptoBulkAll spare + 1
  | .agg parts => uptoBulkAll parts + 1
  | .iface _ d => uptoBulk d + 1
  | .map entries => uptoBulkEntries entries + 1
  | .held _ => 1
def uptoBulkAll {H : Type} : List (DataW H) → Nat
  | [] => 0
  | d :: r => uptoBulk d + uptoBulkAll r
def uptoBulkEntries {H : Type} : List (Lit × DataW H) → Nat
  | [] => 0
  | x :: r => uptoBulkEntry x + uptoBulkEntries r
def uptoBulkEntry {H : Type} : Lit × DataW H → Nat
  | (.string bytes, d) => bytes.length + uptoBulk d + 1
  | (_, d) => uptoBulk d + 1
 end
def uptoSmall : (H : Type) → List (DataW H) → Bool := fun _ ds => decide (uptoBulkAll ds ≤ 1048576)
def OpenSpec.upto (s : _root_.Go.ChangeSpec) : _root_.Go.OpenSpec := { _root_.Go.OpenSpec.ofChange s with cond := some uptoSmall }

/-- 'laws.FnLeftOver', WHERE WHAT IT READS IS OF BULK AT MOST 1048576: true; the input reads as it did. -/
def fnLeftOverUptoRow : OpenClaim := { program := "ytolnbkplgnpfjaa", sum := "28e5a0f0f29732820fb5679a6182715c2739cf8467bbb37d4815a10071e25034", func := "loop.example/strategiesthatspread/laws.FnLeftOver", spec := "fnLeftOver", apart := false, narrowed := true }
def FnLeftOverUptoSaid : Prop := fnLeftOverUptoRow.holds Try.pinned (OpenSpec.upto fnLeftOverSpec)

/-- 'laws.FnFixedOnes', WHERE WHAT IT READS IS OF BULK AT MOST 1048576: true; the input reads as it did. -/
def fnFixedOnesUptoRow : OpenClaim := { program := "ytolnbkplgnpfjaa", sum := "28e5a0f0f29732820fb5679a6182715c2739cf8467bbb37d4815a10071e25034", func := "loop.example/strategiesthatspread/laws.FnFixedOnes", spec := "fnFixedOnes", unfollowed := true, recurses := true, apart := false, narrowed := true }
def FnFixedOnesUptoSaid : Prop := fnFixedOnesUptoRow.holds Try.pinned (OpenSpec.upto fnFixedOnesSpec)

/-- 'laws.FnBirthDrift', WHERE WHAT IT READS IS OF BULK AT MOST 1048576: true; the input reads as it did. -/
def fnBirthDriftUptoRow : OpenClaim := { program := "ytolnbkplgnpfjaa", sum := "28e5a0f0f29732820fb5679a6182715c2739cf8467bbb37d4815a10071e25034", func := "loop.example/strategiesthatspread/laws.FnBirthDrift", spec := "fnBirthDrift", apart := false, narrowed := true }
def FnBirthDriftUptoSaid : Prop := fnBirthDriftUptoRow.holds Try.pinned (OpenSpec.upto fnBirthDriftSpec)

/-- 'laws.FnDeathDrift', WHERE WHAT IT READS IS OF BULK AT MOST 1048576: true; the input reads as it did. -/
def fnDeathDriftUptoRow : OpenClaim := { program := "ytolnbkplgnpfjaa", sum := "28e5a0f0f29732820fb5679a6182715c2739cf8467bbb37d4815a10071e25034", func := "loop.example/strategiesthatspread/laws.FnDeathDrift", spec := "fnDeathDrift", apart := false, narrowed := true }
def FnDeathDriftUptoSaid : Prop := fnDeathDriftUptoRow.holds Try.pinned (OpenSpec.upto fnDeathDriftSpec)

/-- 'laws.FnPlaceChances', WHERE WHAT IT READS IS OF BULK AT MOST 1048576: true; the input reads as it did. -/
def fnPlaceChancesUptoRow : OpenClaim := { program := "ytolnbkplgnpfjaa", sum := "28e5a0f0f29732820fb5679a6182715c2739cf8467bbb37d4815a10071e25034", func := "loop.example/strategiesthatspread/laws.FnPlaceChances", spec := "fnPlaceChances", apart := false, narrowed := true }
def FnPlaceChancesUptoSaid : Prop := fnPlaceChancesUptoRow.holds Try.pinned (OpenSpec.upto fnPlaceChancesSpec)

/-- 'laws.FnEvenHasPotential', WHERE WHAT IT READS IS OF BULK AT MOST 1048576: true; the input reads as it did. -/
def fnEvenHasPotentialUptoRow : OpenClaim := { program := "ytolnbkplgnpfjaa", sum := "28e5a0f0f29732820fb5679a6182715c2739cf8467bbb37d4815a10071e25034", func := "loop.example/strategiesthatspread/laws.FnEvenHasPotential", spec := "fnEvenHasPotential", apart := false, narrowed := true }
def FnEvenHasPotentialUptoSaid : Prop := fnEvenHasPotentialUptoRow.holds Try.pinned (OpenSpec.upto fnEvenHasPotentialSpec)

/-- 'laws.FnEvenGraphsAreFair', WHERE WHAT IT READS IS OF BULK AT MOST 1048576: true; the input reads as it did. -/
def fnEvenGraphsAreFairUptoRow : OpenClaim := { program := "ytolnbkplgnpfjaa", sum := "28e5a0f0f29732820fb5679a6182715c2739cf8467bbb37d4815a10071e25034", func := "loop.example/strategiesthatspread/laws.FnEvenGraphsAreFair", spec := "fnEvenGraphsAreFair", apart := false, narrowed := true }
def FnEvenGraphsAreFairUptoSaid : Prop := fnEvenGraphsAreFairUptoRow.holds Try.pinned (OpenSpec.upto fnEvenGraphsAreFairSpec)

/-- 'laws.FnExactLeftOver', WHERE WHAT IT READS IS OF BULK AT MOST 1048576: true; the input reads as it did. -/
def fnExactLeftOverUptoRow : OpenClaim := { program := "ytolnbkplgnpfjaa", sum := "28e5a0f0f29732820fb5679a6182715c2739cf8467bbb37d4815a10071e25034", func := "loop.example/strategiesthatspread/laws.FnExactLeftOver", spec := "fnExactLeftOver", apart := false, narrowed := true }
def FnExactLeftOverUptoSaid : Prop := fnExactLeftOverUptoRow.holds Try.pinned (OpenSpec.upto fnExactLeftOverSpec)

/-- 'laws.FnExactPotentialOf', WHERE WHAT IT READS IS OF BULK AT MOST 1048576: true; the input reads as it did. -/
def fnExactPotentialOfUptoRow : OpenClaim := { program := "ytolnbkplgnpfjaa", sum := "28e5a0f0f29732820fb5679a6182715c2739cf8467bbb37d4815a10071e25034", func := "loop.example/strategiesthatspread/laws.FnExactPotentialOf", spec := "fnExactPotentialOf", apart := false, narrowed := true }
def FnExactPotentialOfUptoSaid : Prop := fnExactPotentialOfUptoRow.holds Try.pinned (OpenSpec.upto fnExactPotentialOfSpec)

end Rows
end Go.Proofs.Ytolnbkplgnpfjaa
