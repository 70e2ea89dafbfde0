/-
  No cell of these rows narrows 'for every input' (looked for: loops, veiled, ifaces, maps, wideKeys, modest, calm, conditions, laid).
  DERIVED. THE GIVEN ROWS OF THIS SEAT. 10 by the template 'for every input the law returns true; each argument reads behind the call as it read before'; 0 by the template 'total and deterministic' (their statements: YtamjiinhogmifaaTotals.lean).
  GIVEN WITH THE SEED: the statements are not yours to turn. If you find one false, say at which input.
  Laid BY PROGRAM, IN A SANDBOX (cutbox-rows.mjs): the forced cells as the released guide's own fill.sh prints them over the translation 8b3bdb17d2cad748… (all of the seat's roots in one cut). By AI agents, Wed Nov 11 2026. No macro, syntax, notation, axiom, sorry.
-/
import Derived.Test.YtamjiinhogmifaaChecked
import GoSem.Claim
import GoSem.ClaimJoined
import GoSem.ClaimMapViews
import Derived.JoinedTies
import Derived.KernelRfl
namespace Go.Proofs.Ytamjiinhogmifaa
/- THE CELL 'sum', in the pinned program and in every row, IS THE sha256 OF THE DUMP (.gsa) THAT YtamjiinhogmifaaProg.lean LOADS. Nothing in Lean hashes anything: it is a label: what it is worth is what the hold of that sum in a sandbox is worth. -/
noncomputable def Try.pinned : Pinned := { name := "ytamjiinhogmifaa", sum := "8b3bdb17d2cad7480218ae1876c8d5c7feb1bd0232cc88bc3c0db820d958ea98", checked := Try.checked }
namespace Rows
def none {H : Type} : Left H := { results := [], args := [] }

/-- 'laws.FnPartsOf': WHATEVER THE INPUT: true; the input reads as it did. -/
def fnPartsOfSpec : ChangeSpec := { name := "fnPartsOf", fn := fun _ => fun
  | [d] => { results := [.lit (.bool true)], args := [d] }
  | _ => none }
def fnPartsOfRow : OpenClaim := { program := "ytamjiinhogmifaa", sum := "8b3bdb17d2cad7480218ae1876c8d5c7feb1bd0232cc88bc3c0db820d958ea98", func := "loop.example/strategiesthatspread/laws.FnPartsOf", spec := "fnPartsOf", recurses := true, apart := false }
def FnPartsOfSaid : Prop := fnPartsOfRow.holds Try.pinned (OpenSpec.ofChange fnPartsOfSpec)

/-- ITS FALSE NEIGHBOUR: 'it returns false'. Refute it at one input. -/
def fnPartsOfWrong : ChangeSpec := { name := "fnPartsOf", fn := fun _ => fun
  | [d] => { results := [.lit (.bool false)], args := [d] }
  | _ => none }
def FnPartsOfWrongFalsely : Prop := fnPartsOfRow.holds Try.pinned (OpenSpec.ofChange fnPartsOfWrong)

/-- 'laws.FnValidParts': WHATEVER THE INPUT: true; the input reads as it did. -/
def fnValidPartsSpec : ChangeSpec := { name := "fnValidParts", fn := fun _ => fun
  | [d] => { results := [.lit (.bool true)], args := [d] }
  | _ => none }
def fnValidPartsRow : OpenClaim := { program := "ytamjiinhogmifaa", sum := "8b3bdb17d2cad7480218ae1876c8d5c7feb1bd0232cc88bc3c0db820d958ea98", func := "loop.example/strategiesthatspread/laws.FnValidParts", spec := "fnValidParts", recurses := true, apart := false }
def FnValidPartsSaid : Prop := fnValidPartsRow.holds Try.pinned (OpenSpec.ofChange fnValidPartsSpec)

/-- ITS FALSE NEIGHBOUR: 'it returns false'. Refute it at one input. -/
def fnValidPartsWrong : ChangeSpec := { name := "fnValidParts", fn := fun _ => fun
  | [d] => { results := [.lit (.bool false)], args := [d] }
  | _ => none }
def FnValidPartsWrongFalsely : Prop := fnValidPartsRow.holds Try.pinned (OpenSpec.ofChange fnValidPartsWrong)

/-- 'laws.FnMeanKinds': WHATEVER THE INPUT: true; the input reads as it did. -/
def fnMeanKindsSpec : ChangeSpec := { name := "fnMeanKinds", fn := fun _ => fun
  | [d] => { results := [.lit (.bool true)], args := [d] }
  | _ => none }
def fnMeanKindsRow : OpenClaim := { program := "ytamjiinhogmifaa", sum := "8b3bdb17d2cad7480218ae1876c8d5c7feb1bd0232cc88bc3c0db820d958ea98", func := "loop.example/strategiesthatspread/laws.FnMeanKinds", spec := "fnMeanKinds", apart := false }
def FnMeanKindsSaid : Prop := fnMeanKindsRow.holds Try.pinned (OpenSpec.ofChange fnMeanKindsSpec)

/-- ITS FALSE NEIGHBOUR: 'it returns false'. Refute it at one input. -/
def fnMeanKindsWrong : ChangeSpec := { name := "fnMeanKinds", fn := fun _ => fun
  | [d] => { results := [.lit (.bool false)], args := [d] }
  | _ => none }
def FnMeanKindsWrongFalsely : Prop := fnMeanKindsRow.holds Try.pinned (OpenSpec.ofChange fnMeanKindsWrong)

/-- 'laws.FnHistoriesOf': WHATEVER THE INPUT: true; the input reads as it did. -/
def fnHistoriesOfSpec : ChangeSpec := { name := "fnHistoriesOf", fn := fun _ => fun
  | [d] => { results := [.lit (.bool true)], args := [d] }
  | _ => none }
def fnHistoriesOfRow : OpenClaim := { program := "ytamjiinhogmifaa", sum := "8b3bdb17d2cad7480218ae1876c8d5c7feb1bd0232cc88bc3c0db820d958ea98", func := "loop.example/strategiesthatspread/laws.FnHistoriesOf", spec := "fnHistoriesOf", recurses := true, apart := false }
def FnHistoriesOfSaid : Prop := fnHistoriesOfRow.holds Try.pinned (OpenSpec.ofChange fnHistoriesOfSpec)

/-- ITS FALSE NEIGHBOUR: 'it returns false'. Refute it at one input. -/
def fnHistoriesOfWrong : ChangeSpec := { name := "fnHistoriesOf", fn := fun _ => fun
  | [d] => { results := [.lit (.bool false)], args := [d] }
  | _ => none }
def FnHistoriesOfWrongFalsely : Prop := fnHistoriesOfRow.holds Try.pinned (OpenSpec.ofChange fnHistoriesOfWrong)

/-- 'laws.FnExactPartsOf': WHATEVER THE INPUT: true; the input reads as it did. -/
def fnExactPartsOfSpec : ChangeSpec := { name := "fnExactPartsOf", fn := fun _ => fun
  | [d] => { results := [.lit (.bool true)], args := [d] }
  | _ => none }
def fnExactPartsOfRow : OpenClaim := { program := "ytamjiinhogmifaa", sum := "8b3bdb17d2cad7480218ae1876c8d5c7feb1bd0232cc88bc3c0db820d958ea98", func := "loop.example/strategiesthatspread/laws.FnExactPartsOf", spec := "fnExactPartsOf", recurses := true, apart := false }
def FnExactPartsOfSaid : Prop := fnExactPartsOfRow.holds Try.pinned (OpenSpec.ofChange fnExactPartsOfSpec)

/-- ITS FALSE NEIGHBOUR: 'it returns false'. Refute it at one input. -/
def fnExactPartsOfWrong : ChangeSpec := { name := "fnExactPartsOf", fn := fun _ => fun
  | [d] => { results := [.lit (.bool false)], args := [d] }
  | _ => none }
def FnExactPartsOfWrongFalsely : Prop := fnExactPartsOfRow.holds Try.pinned (OpenSpec.ofChange fnExactPartsOfWrong)

/-- 'laws.FnExactValidParts': WHATEVER THE INPUT: true; the input reads as it did. -/
def fnExactValidPartsSpec : ChangeSpec := { name := "fnExactValidParts", fn := fun _ => fun
  | [d] => { results := [.lit (.bool true)], args := [d] }
  | _ => none }
def fnExactValidPartsRow : OpenClaim := { program := "ytamjiinhogmifaa", sum := "8b3bdb17d2cad7480218ae1876c8d5c7feb1bd0232cc88bc3c0db820d958ea98", func := "loop.example/strategiesthatspread/laws.FnExactValidParts", spec := "fnExactValidParts", apart := false }
def FnExactValidPartsSaid : Prop := fnExactValidPartsRow.holds Try.pinned (OpenSpec.ofChange fnExactValidPartsSpec)

/-- ITS FALSE NEIGHBOUR: 'it returns false'. Refute it at one input. -/
def fnExactValidPartsWrong : ChangeSpec := { name := "fnExactValidParts", fn := fun _ => fun
  | [d] => { results := [.lit (.bool false)], args := [d] }
  | _ => none }
def FnExactValidPartsWrongFalsely : Prop := fnExactValidPartsRow.holds Try.pinned (OpenSpec.ofChange fnExactValidPartsWrong)

/-- 'laws.FnExactKindsByProduct': WHATEVER THE INPUT: true; the input reads as it did. -/
def fnExactKindsByProductSpec : ChangeSpec := { name := "fnExactKindsByProduct", fn := fun _ => fun
  | [d1, d2] => { results := [.lit (.bool true)], args := [d1, d2] }
  | _ => none }
def fnExactKindsByProductRow : OpenClaim := { program := "ytamjiinhogmifaa", sum := "8b3bdb17d2cad7480218ae1876c8d5c7feb1bd0232cc88bc3c0db820d958ea98", func := "loop.example/strategiesthatspread/laws.FnExactKindsByProduct", spec := "fnExactKindsByProduct", apart := false }
def FnExactKindsByProductSaid : Prop := fnExactKindsByProductRow.holds Try.pinned (OpenSpec.ofChange fnExactKindsByProductSpec)

/-- ITS FALSE NEIGHBOUR: 'it returns false'. Refute it at one input. -/
def fnExactKindsByProductWrong : ChangeSpec := { name := "fnExactKindsByProduct", fn := fun _ => fun
  | [d1, d2] => { results := [.lit (.bool false)], args := [d1, d2] }
  | _ => none }
def FnExactKindsByProductWrongFalsely : Prop := fnExactKindsByProductRow.holds Try.pinned (OpenSpec.ofChange fnExactKindsByProductWrong)

/-- 'laws.FnExactKindsByUrn': WHATEVER THE INPUT: true; the input reads as it did. -/
def fnExactKindsByUrnSpec : ChangeSpec := { name := "fnExactKindsByUrn", fn := fun _ => fun
  | [d1, d2] => { results := [.lit (.bool true)], args := [d1, d2] }
  | _ => none }
def fnExactKindsByUrnRow : OpenClaim := { program := "ytamjiinhogmifaa", sum := "8b3bdb17d2cad7480218ae1876c8d5c7feb1bd0232cc88bc3c0db820d958ea98", func := "loop.example/strategiesthatspread/laws.FnExactKindsByUrn", spec := "fnExactKindsByUrn", inPlace := ["maps.clone"], recurses := true, apart := false }
def FnExactKindsByUrnSaid : Prop := fnExactKindsByUrnRow.holds Try.pinned (OpenSpec.ofChange fnExactKindsByUrnSpec)

/-- ITS FALSE NEIGHBOUR: 'it returns false'. Refute it at one input. -/
def fnExactKindsByUrnWrong : ChangeSpec := { name := "fnExactKindsByUrn", fn := fun _ => fun
  | [d1, d2] => { results := [.lit (.bool false)], args := [d1, d2] }
  | _ => none }
def FnExactKindsByUrnWrongFalsely : Prop := fnExactKindsByUrnRow.holds Try.pinned (OpenSpec.ofChange fnExactKindsByUrnWrong)

/-- 'laws.FnExactMeanKinds': WHATEVER THE INPUT: true; the input reads as it did. -/
def fnExactMeanKindsSpec : ChangeSpec := { name := "fnExactMeanKinds", fn := fun _ => fun
  | [d1, d2] => { results := [.lit (.bool true)], args := [d1, d2] }
  | _ => none }
def fnExactMeanKindsRow : OpenClaim := { program := "ytamjiinhogmifaa", sum := "8b3bdb17d2cad7480218ae1876c8d5c7feb1bd0232cc88bc3c0db820d958ea98", func := "loop.example/strategiesthatspread/laws.FnExactMeanKinds", spec := "fnExactMeanKinds", apart := false }
def FnExactMeanKindsSaid : Prop := fnExactMeanKindsRow.holds Try.pinned (OpenSpec.ofChange fnExactMeanKindsSpec)

/-- ITS FALSE NEIGHBOUR: 'it returns false'. Refute it at one input. -/
def fnExactMeanKindsWrong : ChangeSpec := { name := "fnExactMeanKinds", fn := fun _ => fun
  | [d1, d2] => { results := [.lit (.bool false)], args := [d1, d2] }
  | _ => none }
def FnExactMeanKindsWrongFalsely : Prop := fnExactMeanKindsRow.holds Try.pinned (OpenSpec.ofChange fnExactMeanKindsWrong)

/-- 'laws.FnExactHistoriesOf': WHATEVER THE INPUT: true; the input reads as it did. -/
def fnExactHistoriesOfSpec : ChangeSpec := { name := "fnExactHistoriesOf", fn := fun _ => fun
  | [d] => { results := [.lit (.bool true)], args := [d] }
  | _ => none }
def fnExactHistoriesOfRow : OpenClaim := { program := "ytamjiinhogmifaa", sum := "8b3bdb17d2cad7480218ae1876c8d5c7feb1bd0232cc88bc3c0db820d958ea98", func := "loop.example/strategiesthatspread/laws.FnExactHistoriesOf", spec := "fnExactHistoriesOf", recurses := true, apart := false }
def FnExactHistoriesOfSaid : Prop := fnExactHistoriesOfRow.holds Try.pinned (OpenSpec.ofChange fnExactHistoriesOfSpec)

/-- ITS FALSE NEIGHBOUR: 'it returns false'. Refute it at one input. -/
def fnExactHistoriesOfWrong : ChangeSpec := { name := "fnExactHistoriesOf", fn := fun _ => fun
  | [d] => { results := [.lit (.bool false)], args := [d] }
  | _ => none }
def FnExactHistoriesOfWrongFalsely : Prop := fnExactHistoriesOfRow.holds Try.pinned (OpenSpec.ofChange fnExactHistoriesOfWrong)

/- THE SECOND FORM. 'bulk': how many values and letters a reading holds, each counted each time it is reached (what is shared counts as often as it is met; a slice's spare places count too). A statement '..UptoSaid' is the law's where the arguments, and the package variables that the reading takes, are together of bulk at most 1048576: NARROWER than '..Said'. Prove '..Said' where nothing that the law and all that it calls make is longer than what came in: it says more and counts as full. Else prove '..UptoSaid'. A law counts once. -/
mutual
def uptoBulk {H : Type} : DataW H → Nat
  | .lit (.string bytes) => bytes.length + 1
  | .lit _ => 1
  | .nil => 1
  | .ptr d => uptoBulk d + 1
  | .slice elems spare => uptoBulkAll elems + uptoBulkAll spare + 1
  | .agg parts => uptoBulkAll parts + 1
  | .iface _ d => uptoBulk d + 1
  | .map entries => uptoBulkEntries entries + 1
  | .held _ => 1
def uptoBulkAll {H : Type} : List (DataW H) → Nat
  | [] => 0
  | d :: r => uptoBulk d + uptoBulkAll r
def uptoBulkEntries {H : Type} : List (Lit × DataW H) → Nat
  | [] => 0
  | x :: r => uptoBulkEntry x + uptoBulkEntries r
def uptoBulkEntry {H : Type} : Lit × DataW H → Nat
  | (.string bytes, d) => bytes.length + uptoBulk d + 1
  | (_, d) => uptoBulk d + 1
 end
def uptoSmall : (H : Type) → List (DataW H) → Bool := fun _ ds => decide (uptoBulkAll ds ≤ 1048576)
def OpenSpec.upto (s : _root_.Go.ChangeSpec) : _root_.Go.OpenSpec := { _root_.Go.OpenSpec.ofChange s with cond := some uptoSmall }

/-- 'laws.FnPartsOf', WHERE WHAT IT READS IS OF BULK AT MOST 1048576: true; the input reads as it did. -/
def fnPartsOfUptoRow : OpenClaim := { program := "ytamjiinhogmifaa", sum := "8b3bdb17d2cad7480218ae1876c8d5c7feb1bd0232cc88bc3c0db820d958ea98", func := "loop.example/strategiesthatspread/laws.FnPartsOf", spec := "fnPartsOf", recurses := true, apart := false, narrowed := true }
def FnPartsOfUptoSaid : Prop := fnPartsOfUptoRow.holds Try.pinned (OpenSpec.upto fnPartsOfSpec)

/-- 'laws.FnValidParts', WHERE WHAT IT READS IS OF BULK AT MOST 1048576: true; the input reads as it did. -/
def fnValidPartsUptoRow : OpenClaim := { program := "ytamjiinhogmifaa", sum := "8b3bdb17d2cad7480218ae1876c8d5c7feb1bd0232cc88bc3c0db820d958ea98", func := "loop.example/strategiesthatspread/laws.FnValidParts", spec := "fnValidParts", recurses := true, apart := false, narrowed := true }
def FnValidPartsUptoSaid : Prop := fnValidPartsUptoRow.holds Try.pinned (OpenSpec.upto fnValidPartsSpec)

/-- 'laws.FnMeanKinds', WHERE WHAT IT READS IS OF BULK AT MOST 1048576: true; the input reads as it did. -/
def fnMeanKindsUptoRow : OpenClaim := { program := "ytamjiinhogmifaa", sum := "8b3bdb17d2cad7480218ae1876c8d5c7feb1bd0232cc88bc3c0db820d958ea98", func := "loop.example/strategiesthatspread/laws.FnMeanKinds", spec := "fnMeanKinds", apart := false, narrowed := true }
def FnMeanKindsUptoSaid : Prop := fnMeanKindsUptoRow.holds Try.pinned (OpenSpec.upto fnMeanKindsSpec)

/-- 'laws.FnHistoriesOf', WHERE WHAT IT READS IS OF BULK AT MOST 1048576: true; the input reads as it did. -/
def fnHistoriesOfUptoRow : OpenClaim := { program := "ytamjiinhogmifaa", sum := "8b3bdb17d2cad7480218ae1876c8d5c7feb1bd0232cc88bc3c0db820d958ea98", func := "loop.example/strategiesthatspread/laws.FnHistoriesOf", spec := "fnHistoriesOf", recurses := true, apart := false, narrowed := true }
def FnHistoriesOfUptoSaid : Prop := fnHistoriesOfUptoRow.holds Try.pinned (OpenSpec.upto fnHistoriesOfSpec)

/-- 'laws.FnExactPartsOf', WHERE WHAT IT READS IS OF BULK AT MOST 1048576: true; the input reads as it did. -/
def fnExactPartsOfUptoRow : OpenClaim := { program := "ytamjiinhogmifaa", sum := "8b3bdb17d2cad7480218ae1876c8d5c7feb1bd0232cc88bc3c0db820d958ea98", func := "loop.example/strategiesthatspread/laws.FnExactPartsOf", spec := "fnExactPartsOf", recurses := true, apart := false, narrowed := true }
def FnExactPartsOfUptoSaid : Prop := fnExactPartsOfUptoRow.holds Try.pinned (OpenSpec.upto fnExactPartsOfSpec)

/-- 'laws.FnExactValidParts', WHERE WHAT IT READS IS OF BULK AT MOST 1048576: true; the input reads as it did. -/
def fnExactValidPartsUptoRow : OpenClaim := { program := "ytamjiinhogmifaa", sum := "8b3bdb17d2cad7480218ae1876c8d5c7feb1bd0232cc88bc3c0db820d958ea98", func := "loop.example/strategiesthatspread/laws.FnExactValidParts", spec := "fnExactValidParts", apart := false, narrowed := true }
def FnExactValidPartsUptoSaid : Prop := fnExactValidPartsUptoRow.holds Try.pinned (OpenSpec.upto fnExactValidPartsSpec)

/-- 'laws.FnExactKindsByProduct', WHERE WHAT IT READS IS OF BULK AT MOST 1048576: true; the input reads as it did. -/
def fnExactKindsByProductUptoRow : OpenClaim := { program := "ytamjiinhogmifaa", sum := "8b3bdb17d2cad7480218ae1876c8d5c7feb1bd0232cc88bc3c0db820d958ea98", func := "loop.example/strategiesthatspread/laws.FnExactKindsByProduct", spec := "fnExactKindsByProduct", apart := false, narrowed := true }
def FnExactKindsByProductUptoSaid : Prop := fnExactKindsByProductUptoRow.holds Try.pinned (OpenSpec.upto fnExactKindsByProductSpec)

/-- 'laws.FnExactKindsByUrn', WHERE WHAT IT READS IS OF BULK AT MOST 1048576: true; the input reads as it did. -/
def fnExactKindsByUrnUptoRow : OpenClaim := { program := "ytamjiinhogmifaa", sum := "8b3bdb17d2cad7480218ae1876c8d5c7feb1bd0232cc88bc3c0db820d958ea98", func := "loop.example/strategiesthatspread/laws.FnExactKindsByUrn", spec := "fnExactKindsByUrn", inPlace := ["maps.clone"], recurses := true, apart := false, narrowed := true }
def FnExactKindsByUrnUptoSaid : Prop := fnExactKindsByUrnUptoRow.holds Try.pinned (OpenSpec.upto fnExactKindsByUrnSpec)

/-- 'laws.FnExactMeanKinds', WHERE WHAT IT READS IS OF BULK AT MOST 1048576: true; the input reads as it did. -/
def fnExactMeanKindsUptoRow : OpenClaim := { program := "ytamjiinhogmifaa", sum := "8b3bdb17d2cad7480218ae1876c8d5c7feb1bd0232cc88bc3c0db820d958ea98", func := "loop.example/strategiesthatspread/laws.FnExactMeanKinds", spec := "fnExactMeanKinds", apart := false, narrowed := true }
def FnExactMeanKindsUptoSaid : Prop := fnExactMeanKindsUptoRow.holds Try.pinned (OpenSpec.upto fnExactMeanKindsSpec)

/-- 'laws.FnExactHistoriesOf', WHERE WHAT IT READS IS OF BULK AT MOST 1048576: true; the input reads as it did. -/
def fnExactHistoriesOfUptoRow : OpenClaim := { program := "ytamjiinhogmifaa", sum := "8b3bdb17d2cad7480218ae1876c8d5c7feb1bd0232cc88bc3c0db820d958ea98", func := "loop.example/strategiesthatspread/laws.FnExactHistoriesOf", spec := "fnExactHistoriesOf", recurses := true, apart := false, narrowed := true }
def FnExactHistoriesOfUptoSaid : Prop := fnExactHistoriesOfUptoRow.holds Try.pinned (OpenSpec.upto fnExactHistoriesOfSpec)

end Rows
end Go.Proofs.Ytamjiinhogmifaa
