/-
  No cell of these rows narrows 'for every input' (looked for: loops, veiled, ifaces, maps, wideKeys, modest, calm, conditions, laid).
  DERIVED. THE GIVEN ROWS OF THIS SEAT. 10 by the template 'for every input the law returns true; each argument reads behind the call as it read before'; 0 by the template 'total and deterministic' (their statements: YtgnbmanlpppdoaaTotals.lean).
  GIVEN WITH THE SEED: the statements are not yours to turn. If you find one false, say at which input.
  Laid BY PROGRAM, IN A SANDBOX (cutbox-rows.mjs): the forced cells as the released guide's own fill.sh prints them over the translation e4bf06f93f44295f… (all of the seat's roots in one cut). By AI agents, Wed Nov 11 2026. No macro, syntax, notation, axiom, sorry.
-/
import Derived.Test.YtgnbmanlpppdoaaChecked
import GoSem.Claim
import GoSem.ClaimJoined
import GoSem.ClaimMapViews
import Derived.JoinedTies
import Derived.KernelRfl
namespace Go.Proofs.Ytgnbmanlpppdoaa
/- THE CELL 'sum', in the pinned program and in every row, IS THE sha256 OF THE DUMP (.gsa) THAT YtgnbmanlpppdoaaProg.lean LOADS. Nothing in Lean hashes anything: it is a label: what it is worth is what the hold of that sum in a sandbox is worth. -/
noncomputable def Try.pinned : Pinned := { name := "ytgnbmanlpppdoaa", sum := "e4bf06f93f44295f596a0b4481fc591d9591e98faba11f0958566eb54eb2a1cf", checked := Try.checked }
namespace Rows
def none {H : Type} : Left H := { results := [], args := [] }

/-- 'laws.FnSafeRow': WHATEVER THE INPUT: true; the input reads as it did. -/
def fnSafeRowSpec : ChangeSpec := { name := "fnSafeRow", fn := fun _ => fun
  | [d] => { results := [.lit (.bool true)], args := [d] }
  | _ => none }
def fnSafeRowRow : OpenClaim := { program := "ytgnbmanlpppdoaa", sum := "e4bf06f93f44295f596a0b4481fc591d9591e98faba11f0958566eb54eb2a1cf", func := "loop.example/strategiesthatspread/laws.FnSafeRow", spec := "fnSafeRow", recurses := true, apart := false }
def FnSafeRowSaid : Prop := fnSafeRowRow.holds Try.pinned (OpenSpec.ofChange fnSafeRowSpec)

/-- ITS FALSE NEIGHBOUR: 'it returns false'. Refute it at one input. -/
def fnSafeRowWrong : ChangeSpec := { name := "fnSafeRow", fn := fun _ => fun
  | [d] => { results := [.lit (.bool false)], args := [d] }
  | _ => none }
def FnSafeRowWrongFalsely : Prop := fnSafeRowRow.holds Try.pinned (OpenSpec.ofChange fnSafeRowWrong)

/-- 'laws.FnPayOf': WHATEVER THE INPUT: true; the input reads as it did. -/
def fnPayOfSpec : ChangeSpec := { name := "fnPayOf", fn := fun _ => fun
  | [d] => { results := [.lit (.bool true)], args := [d] }
  | _ => none }
def fnPayOfRow : OpenClaim := { program := "ytgnbmanlpppdoaa", sum := "e4bf06f93f44295f596a0b4481fc591d9591e98faba11f0958566eb54eb2a1cf", func := "loop.example/strategiesthatspread/laws.FnPayOf", spec := "fnPayOf", recurses := true, apart := false }
def FnPayOfSaid : Prop := fnPayOfRow.holds Try.pinned (OpenSpec.ofChange fnPayOfSpec)

/-- ITS FALSE NEIGHBOUR: 'it returns false'. Refute it at one input. -/
def fnPayOfWrong : ChangeSpec := { name := "fnPayOf", fn := fun _ => fun
  | [d] => { results := [.lit (.bool false)], args := [d] }
  | _ => none }
def FnPayOfWrongFalsely : Prop := fnPayOfRow.holds Try.pinned (OpenSpec.ofChange fnPayOfWrong)

/-- 'laws.FnWorstOf': WHATEVER THE INPUT: true; the input reads as it did. -/
def fnWorstOfSpec : ChangeSpec := { name := "fnWorstOf", fn := fun _ => fun
  | [d] => { results := [.lit (.bool true)], args := [d] }
  | _ => none }
def fnWorstOfRow : OpenClaim := { program := "ytgnbmanlpppdoaa", sum := "e4bf06f93f44295f596a0b4481fc591d9591e98faba11f0958566eb54eb2a1cf", func := "loop.example/strategiesthatspread/laws.FnWorstOf", spec := "fnWorstOf", recurses := true, apart := false }
def FnWorstOfSaid : Prop := fnWorstOfRow.holds Try.pinned (OpenSpec.ofChange fnWorstOfSpec)

/-- ITS FALSE NEIGHBOUR: 'it returns false'. Refute it at one input. -/
def fnWorstOfWrong : ChangeSpec := { name := "fnWorstOf", fn := fun _ => fun
  | [d] => { results := [.lit (.bool false)], args := [d] }
  | _ => none }
def FnWorstOfWrongFalsely : Prop := fnWorstOfRow.holds Try.pinned (OpenSpec.ofChange fnWorstOfWrong)

/-- 'laws.FnValueOf': WHATEVER THE INPUT: true; the input reads as it did. -/
def fnValueOfSpec : ChangeSpec := { name := "fnValueOf", fn := fun _ => fun
  | [d] => { results := [.lit (.bool true)], args := [d] }
  | _ => none }
def fnValueOfRow : OpenClaim := { program := "ytgnbmanlpppdoaa", sum := "e4bf06f93f44295f596a0b4481fc591d9591e98faba11f0958566eb54eb2a1cf", func := "loop.example/strategiesthatspread/laws.FnValueOf", spec := "fnValueOf", recurses := true, apart := false }
def FnValueOfSaid : Prop := fnValueOfRow.holds Try.pinned (OpenSpec.ofChange fnValueOfSpec)

/-- ITS FALSE NEIGHBOUR: 'it returns false'. Refute it at one input. -/
def fnValueOfWrong : ChangeSpec := { name := "fnValueOf", fn := fun _ => fun
  | [d] => { results := [.lit (.bool false)], args := [d] }
  | _ => none }
def FnValueOfWrongFalsely : Prop := fnValueOfRow.holds Try.pinned (OpenSpec.ofChange fnValueOfWrong)

/-- 'laws.FnAreBest': WHATEVER THE INPUT: true; the input reads as it did. -/
def fnAreBestSpec : ChangeSpec := { name := "fnAreBest", fn := fun _ => fun
  | [d] => { results := [.lit (.bool true)], args := [d] }
  | _ => none }
def fnAreBestRow : OpenClaim := { program := "ytgnbmanlpppdoaa", sum := "e4bf06f93f44295f596a0b4481fc591d9591e98faba11f0958566eb54eb2a1cf", func := "loop.example/strategiesthatspread/laws.FnAreBest", spec := "fnAreBest", recurses := true, apart := false }
def FnAreBestSaid : Prop := fnAreBestRow.holds Try.pinned (OpenSpec.ofChange fnAreBestSpec)

/-- ITS FALSE NEIGHBOUR: 'it returns false'. Refute it at one input. -/
def fnAreBestWrong : ChangeSpec := { name := "fnAreBest", fn := fun _ => fun
  | [d] => { results := [.lit (.bool false)], args := [d] }
  | _ => none }
def FnAreBestWrongFalsely : Prop := fnAreBestRow.holds Try.pinned (OpenSpec.ofChange fnAreBestWrong)

/-- 'laws.FnBestShares': WHATEVER THE INPUT: true; the input reads as it did. -/
def fnBestSharesSpec : ChangeSpec := { name := "fnBestShares", fn := fun _ => fun
  | [d] => { results := [.lit (.bool true)], args := [d] }
  | _ => none }
def fnBestSharesRow : OpenClaim := { program := "ytgnbmanlpppdoaa", sum := "e4bf06f93f44295f596a0b4481fc591d9591e98faba11f0958566eb54eb2a1cf", func := "loop.example/strategiesthatspread/laws.FnBestShares", spec := "fnBestShares", recurses := true, apart := false }
def FnBestSharesSaid : Prop := fnBestSharesRow.holds Try.pinned (OpenSpec.ofChange fnBestSharesSpec)

/-- ITS FALSE NEIGHBOUR: 'it returns false'. Refute it at one input. -/
def fnBestSharesWrong : ChangeSpec := { name := "fnBestShares", fn := fun _ => fun
  | [d] => { results := [.lit (.bool false)], args := [d] }
  | _ => none }
def FnBestSharesWrongFalsely : Prop := fnBestSharesRow.holds Try.pinned (OpenSpec.ofChange fnBestSharesWrong)

/-- 'laws.FnSaddlesAreValues': WHATEVER THE INPUT: true; the input reads as it did. -/
def fnSaddlesAreValuesSpec : ChangeSpec := { name := "fnSaddlesAreValues", fn := fun _ => fun
  | [d] => { results := [.lit (.bool true)], args := [d] }
  | _ => none }
def fnSaddlesAreValuesRow : OpenClaim := { program := "ytgnbmanlpppdoaa", sum := "e4bf06f93f44295f596a0b4481fc591d9591e98faba11f0958566eb54eb2a1cf", func := "loop.example/strategiesthatspread/laws.FnSaddlesAreValues", spec := "fnSaddlesAreValues", recurses := true, apart := false }
def FnSaddlesAreValuesSaid : Prop := fnSaddlesAreValuesRow.holds Try.pinned (OpenSpec.ofChange fnSaddlesAreValuesSpec)

/-- ITS FALSE NEIGHBOUR: 'it returns false'. Refute it at one input. -/
def fnSaddlesAreValuesWrong : ChangeSpec := { name := "fnSaddlesAreValues", fn := fun _ => fun
  | [d] => { results := [.lit (.bool false)], args := [d] }
  | _ => none }
def FnSaddlesAreValuesWrongFalsely : Prop := fnSaddlesAreValuesRow.holds Try.pinned (OpenSpec.ofChange fnSaddlesAreValuesWrong)

/-- 'laws.FnValuesShift': WHATEVER THE INPUT: true; the input reads as it did. -/
def fnValuesShiftSpec : ChangeSpec := { name := "fnValuesShift", fn := fun _ => fun
  | [d] => { results := [.lit (.bool true)], args := [d] }
  | _ => none }
def fnValuesShiftRow : OpenClaim := { program := "ytgnbmanlpppdoaa", sum := "e4bf06f93f44295f596a0b4481fc591d9591e98faba11f0958566eb54eb2a1cf", func := "loop.example/strategiesthatspread/laws.FnValuesShift", spec := "fnValuesShift", recurses := true, apart := false }
def FnValuesShiftSaid : Prop := fnValuesShiftRow.holds Try.pinned (OpenSpec.ofChange fnValuesShiftSpec)

/-- ITS FALSE NEIGHBOUR: 'it returns false'. Refute it at one input. -/
def fnValuesShiftWrong : ChangeSpec := { name := "fnValuesShift", fn := fun _ => fun
  | [d] => { results := [.lit (.bool false)], args := [d] }
  | _ => none }
def FnValuesShiftWrongFalsely : Prop := fnValuesShiftRow.holds Try.pinned (OpenSpec.ofChange fnValuesShiftWrong)

/-- 'laws.FnExactValueOf': WHATEVER THE INPUT: true; the input reads as it did. -/
def fnExactValueOfSpec : ChangeSpec := { name := "fnExactValueOf", fn := fun _ => fun
  | [d] => { results := [.lit (.bool true)], args := [d] }
  | _ => none }
def fnExactValueOfRow : OpenClaim := { program := "ytgnbmanlpppdoaa", sum := "e4bf06f93f44295f596a0b4481fc591d9591e98faba11f0958566eb54eb2a1cf", func := "loop.example/strategiesthatspread/laws.FnExactValueOf", spec := "fnExactValueOf", recurses := true, apart := false }
def FnExactValueOfSaid : Prop := fnExactValueOfRow.holds Try.pinned (OpenSpec.ofChange fnExactValueOfSpec)

/-- ITS FALSE NEIGHBOUR: 'it returns false'. Refute it at one input. -/
def fnExactValueOfWrong : ChangeSpec := { name := "fnExactValueOf", fn := fun _ => fun
  | [d] => { results := [.lit (.bool false)], args := [d] }
  | _ => none }
def FnExactValueOfWrongFalsely : Prop := fnExactValueOfRow.holds Try.pinned (OpenSpec.ofChange fnExactValueOfWrong)

/-- 'laws.FnExactBestShares': WHATEVER THE INPUT: true; the input reads as it did. -/
def fnExactBestSharesSpec : ChangeSpec := { name := "fnExactBestShares", fn := fun _ => fun
  | [d] => { results := [.lit (.bool true)], args := [d] }
  | _ => none }
def fnExactBestSharesRow : OpenClaim := { program := "ytgnbmanlpppdoaa", sum := "e4bf06f93f44295f596a0b4481fc591d9591e98faba11f0958566eb54eb2a1cf", func := "loop.example/strategiesthatspread/laws.FnExactBestShares", spec := "fnExactBestShares", recurses := true, apart := false }
def FnExactBestSharesSaid : Prop := fnExactBestSharesRow.holds Try.pinned (OpenSpec.ofChange fnExactBestSharesSpec)

/-- ITS FALSE NEIGHBOUR: 'it returns false'. Refute it at one input. -/
def fnExactBestSharesWrong : ChangeSpec := { name := "fnExactBestShares", fn := fun _ => fun
  | [d] => { results := [.lit (.bool false)], args := [d] }
  | _ => none }
def FnExactBestSharesWrongFalsely : Prop := fnExactBestSharesRow.holds Try.pinned (OpenSpec.ofChange fnExactBestSharesWrong)

/- THE SECOND FORM. 'bulk': how many values and letters a reading holds, each counted each time it is reached (what is shared counts as often as it is met; a slice's spare places count too). A statement '..UptoSaid' is the law's where the arguments, and the package variables that the reading takes, are together of bulk at most 1048576: NARROWER than '..Said'. Prove '..Said' where nothing that the law and all that it calls make is longer than what came in: it says more and counts as full. Else prove '..UptoSaid'. A law counts once. -/
mutual
def uptoBulk {H : Type} : DataW H → Nat
  | .lit (.string bytes) => bytes.length + 1
  | .lit _ => 1
  | .nil => 1
  | .ptr d => uptoBulk d + 1
  | .slice elems spare => uptoBulkAll elems + uptoBulkAll spare + 1
  | .agg parts => uptoBulkAll parts + 1
  | .iface _ d => uptoBulk d + 1
  | .map entries => uptoBulkEntries entries + 1
  | .held _ => 1
def uptoBulkAll {H : Type} : List (DataW H) → Nat
  | [] => 0
  | d :: r => uptoBulk d + uptoBulkAll r
def uptoBulkEntries {H : Type} : List (Lit × DataW H) → Nat
  | [] => 0
  | x :: r => uptoBulkEntry x + uptoBulkEntries r
def uptoBulkEntry {H : Type} : Lit × DataW H → Nat
  | (.string bytes, d) => bytes.length + uptoBulk d + 1
  | (_, d) => uptoBulk d + 1
 end
def uptoSmall : (H : Type) → List (DataW H) → Bool := fun _ ds => decide (uptoBulkAll ds ≤ 1048576)
def OpenSpec.upto (s : _root_.Go.ChangeSpec) : _root_.Go.OpenSpec := { _root_.Go.OpenSpec.ofChange s with cond := some uptoSmall }

/-- 'laws.FnSafeRow', WHERE WHAT IT READS IS OF BULK AT MOST 1048576: true; the input reads as it did. -/
def fnSafeRowUptoRow : OpenClaim := { program := "ytgnbmanlpppdoaa", sum := "e4bf06f93f44295f596a0b4481fc591d9591e98faba11f0958566eb54eb2a1cf", func := "loop.example/strategiesthatspread/laws.FnSafeRow", spec := "fnSafeRow", recurses := true, apart := false, narrowed := true }
def FnSafeRowUptoSaid : Prop := fnSafeRowUptoRow.holds Try.pinned (OpenSpec.upto fnSafeRowSpec)

/-- 'laws.FnPayOf', WHERE WHAT IT READS IS OF BULK AT MOST 1048576: true; the input reads as it did. -/
def fnPayOfUptoRow : OpenClaim := { program := "ytgnbmanlpppdoaa", sum := "e4bf06f93f44295f596a0b4481fc591d9591e98faba11f0958566eb54eb2a1cf", func := "loop.example/strategiesthatspread/laws.FnPayOf", spec := "fnPayOf", recurses := true, apart := false, narrowed := true }
def FnPayOfUptoSaid : Prop := fnPayOfUptoRow.holds Try.pinned (OpenSpec.upto fnPayOfSpec)

/-- 'laws.FnWorstOf', WHERE WHAT IT READS IS OF BULK AT MOST 1048576: true; the input reads as it did. -/
def fnWorstOfUptoRow : OpenClaim := { program := "ytgnbmanlpppdoaa", sum := "e4bf06f93f44295f596a0b4481fc591d9591e98faba11f0958566eb54eb2a1cf", func := "loop.example/strategiesthatspread/laws.FnWorstOf", spec := "fnWorstOf", recurses := true, apart := false, narrowed := true }
def FnWorstOfUptoSaid : Prop := fnWorstOfUptoRow.holds Try.pinned (OpenSpec.upto fnWorstOfSpec)

/-- 'laws.FnValueOf', WHERE WHAT IT READS IS OF BULK AT MOST 1048576: true; the input reads as it did. -/
def fnValueOfUptoRow : OpenClaim := { program := "ytgnbmanlpppdoaa", sum := "e4bf06f93f44295f596a0b4481fc591d9591e98faba11f0958566eb54eb2a1cf", func := "loop.example/strategiesthatspread/laws.FnValueOf", spec := "fnValueOf", recurses := true, apart := false, narrowed := true }
def FnValueOfUptoSaid : Prop := fnValueOfUptoRow.holds Try.pinned (OpenSpec.upto fnValueOfSpec)

/-- 'laws.FnAreBest', WHERE WHAT IT READS IS OF BULK AT MOST 1048576: true; the input reads as it did. -/
def fnAreBestUptoRow : OpenClaim := { program := "ytgnbmanlpppdoaa", sum := "e4bf06f93f44295f596a0b4481fc591d9591e98faba11f0958566eb54eb2a1cf", func := "loop.example/strategiesthatspread/laws.FnAreBest", spec := "fnAreBest", recurses := true, apart := false, narrowed := true }
def FnAreBestUptoSaid : Prop := fnAreBestUptoRow.holds Try.pinned (OpenSpec.upto fnAreBestSpec)

/-- 'laws.FnBestShares', WHERE WHAT IT READS IS OF BULK AT MOST 1048576: true; the input reads as it did. -/
def fnBestSharesUptoRow : OpenClaim := { program := "ytgnbmanlpppdoaa", sum := "e4bf06f93f44295f596a0b4481fc591d9591e98faba11f0958566eb54eb2a1cf", func := "loop.example/strategiesthatspread/laws.FnBestShares", spec := "fnBestShares", recurses := true, apart := false, narrowed := true }
def FnBestSharesUptoSaid : Prop := fnBestSharesUptoRow.holds Try.pinned (OpenSpec.upto fnBestSharesSpec)

/-- 'laws.FnSaddlesAreValues', WHERE WHAT IT READS IS OF BULK AT MOST 1048576: true; the input reads as it did. -/
def fnSaddlesAreValuesUptoRow : OpenClaim := { program := "ytgnbmanlpppdoaa", sum := "e4bf06f93f44295f596a0b4481fc591d9591e98faba11f0958566eb54eb2a1cf", func := "loop.example/strategiesthatspread/laws.FnSaddlesAreValues", spec := "fnSaddlesAreValues", recurses := true, apart := false, narrowed := true }
def FnSaddlesAreValuesUptoSaid : Prop := fnSaddlesAreValuesUptoRow.holds Try.pinned (OpenSpec.upto fnSaddlesAreValuesSpec)

/-- 'laws.FnValuesShift', WHERE WHAT IT READS IS OF BULK AT MOST 1048576: true; the input reads as it did. -/
def fnValuesShiftUptoRow : OpenClaim := { program := "ytgnbmanlpppdoaa", sum := "e4bf06f93f44295f596a0b4481fc591d9591e98faba11f0958566eb54eb2a1cf", func := "loop.example/strategiesthatspread/laws.FnValuesShift", spec := "fnValuesShift", recurses := true, apart := false, narrowed := true }
def FnValuesShiftUptoSaid : Prop := fnValuesShiftUptoRow.holds Try.pinned (OpenSpec.upto fnValuesShiftSpec)

/-- 'laws.FnExactValueOf', WHERE WHAT IT READS IS OF BULK AT MOST 1048576: true; the input reads as it did. -/
def fnExactValueOfUptoRow : OpenClaim := { program := "ytgnbmanlpppdoaa", sum := "e4bf06f93f44295f596a0b4481fc591d9591e98faba11f0958566eb54eb2a1cf", func := "loop.example/strategiesthatspread/laws.FnExactValueOf", spec := "fnExactValueOf", recurses := true, apart := false, narrowed := true }
def FnExactValueOfUptoSaid : Prop := fnExactValueOfUptoRow.holds Try.pinned (OpenSpec.upto fnExactValueOfSpec)

/-- 'laws.FnExactBestShares', WHERE WHAT IT READS IS OF BULK AT MOST 1048576: true; the input reads as it did. -/
def fnExactBestSharesUptoRow : OpenClaim := { program := "ytgnbmanlpppdoaa", sum := "e4bf06f93f44295f596a0b4481fc591d9591e98faba11f0958566eb54eb2a1cf", func := "loop.example/strategiesthatspread/laws.FnExactBestShares", spec := "fnExactBestShares", recurses := true, apart := false, narrowed := true }
def FnExactBestSharesUptoSaid : Prop := fnExactBestSharesUptoRow.holds Try.pinned (OpenSpec.upto fnExactBestSharesSpec)

end Rows
end Go.Proofs.Ytgnbmanlpppdoaa
