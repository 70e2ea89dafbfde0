/-
  No cell of these rows narrows 'for every input' (looked for: loops, veiled, ifaces, maps, wideKeys, modest, calm, conditions, laid).
  DERIVED. THE GIVEN ROWS OF THIS SEAT. 9 by the template 'for every input the law returns true; each argument reads behind the call as it read before'; 0 by the template 'total and deterministic' (their statements: YtnbkifpmoegaaaaTotals.lean).
  GIVEN WITH THE SEED: the statements are not yours to turn. If you find one false, say at which input.
  Laid BY PROGRAM, IN A SANDBOX (cutbox-rows.mjs): the forced cells as the released guide's own fill.sh prints them over the translation 06dd23e3b3bca407… (all of the seat's roots in one cut). By AI agents, Wed Nov 11 2026. No macro, syntax, notation, axiom, sorry.
-/
import Derived.Test.YtnbkifpmoegaaaaChecked
import GoSem.Claim
import GoSem.ClaimJoined
import GoSem.ClaimMapViews
import Derived.JoinedTies
import Derived.KernelRfl
namespace Go.Proofs.Ytnbkifpmoegaaaa
/- THE CELL 'sum', in the pinned program and in every row, IS THE sha256 OF THE DUMP (.gsa) THAT YtnbkifpmoegaaaaProg.lean LOADS. Nothing in Lean hashes anything: it is a label: what it is worth is what the hold of that sum in a sandbox is worth. -/
noncomputable def Try.pinned : Pinned := { name := "ytnbkifpmoegaaaa", sum := "06dd23e3b3bca4074434e120795a07b48d2786e78d8d795522a01cecee027696", checked := Try.checked }
namespace Rows
def none {H : Type} : Left H := { results := [], args := [] }

/-- 'laws.FnValidGraph': WHATEVER THE INPUT: true; the input reads as it did. -/
def fnValidGraphSpec : ChangeSpec := { name := "fnValidGraph", fn := fun _ => fun
  | [d] => { results := [.lit (.bool true)], args := [d] }
  | _ => none }
def fnValidGraphRow : OpenClaim := { program := "ytnbkifpmoegaaaa", sum := "06dd23e3b3bca4074434e120795a07b48d2786e78d8d795522a01cecee027696", func := "loop.example/strategiesthatspread/laws.FnValidGraph", spec := "fnValidGraph", plainKeys := false, apart := false }
def FnValidGraphSaid : Prop := fnValidGraphRow.holds Try.pinned (OpenSpec.ofChange fnValidGraphSpec)

/-- ITS FALSE NEIGHBOUR: 'it returns false'. Refute it at one input. -/
def fnValidGraphWrong : ChangeSpec := { name := "fnValidGraph", fn := fun _ => fun
  | [d] => { results := [.lit (.bool false)], args := [d] }
  | _ => none }
def FnValidGraphWrongFalsely : Prop := fnValidGraphRow.holds Try.pinned (OpenSpec.ofChange fnValidGraphWrong)

/-- 'laws.FnCopyRing': WHATEVER THE INPUT: true; the input reads as it did. -/
def fnCopyRingSpec : ChangeSpec := { name := "fnCopyRing", fn := fun _ => fun
  | [d] => { results := [.lit (.bool true)], args := [d] }
  | _ => none }
def fnCopyRingRow : OpenClaim := { program := "ytnbkifpmoegaaaa", sum := "06dd23e3b3bca4074434e120795a07b48d2786e78d8d795522a01cecee027696", func := "loop.example/strategiesthatspread/laws.FnCopyRing", spec := "fnCopyRing", plainKeys := false, apart := false }
def FnCopyRingSaid : Prop := fnCopyRingRow.holds Try.pinned (OpenSpec.ofChange fnCopyRingSpec)

/-- ITS FALSE NEIGHBOUR: 'it returns false'. Refute it at one input. -/
def fnCopyRingWrong : ChangeSpec := { name := "fnCopyRing", fn := fun _ => fun
  | [d] => { results := [.lit (.bool false)], args := [d] }
  | _ => none }
def FnCopyRingWrongFalsely : Prop := fnCopyRingRow.holds Try.pinned (OpenSpec.ofChange fnCopyRingWrong)

/-- 'laws.FnRingCycle': WHATEVER THE INPUT: true; the input reads as it did. -/
def fnRingCycleSpec : ChangeSpec := { name := "fnRingCycle", fn := fun _ => fun
  | [d] => { results := [.lit (.bool true)], args := [d] }
  | _ => none }
def fnRingCycleRow : OpenClaim := { program := "ytnbkifpmoegaaaa", sum := "06dd23e3b3bca4074434e120795a07b48d2786e78d8d795522a01cecee027696", func := "loop.example/strategiesthatspread/laws.FnRingCycle", spec := "fnRingCycle", plainKeys := false, apart := false }
def FnRingCycleSaid : Prop := fnRingCycleRow.holds Try.pinned (OpenSpec.ofChange fnRingCycleSpec)

/-- ITS FALSE NEIGHBOUR: 'it returns false'. Refute it at one input. -/
def fnRingCycleWrong : ChangeSpec := { name := "fnRingCycle", fn := fun _ => fun
  | [d] => { results := [.lit (.bool false)], args := [d] }
  | _ => none }
def FnRingCycleWrongFalsely : Prop := fnRingCycleRow.holds Try.pinned (OpenSpec.ofChange fnRingCycleWrong)

/-- 'laws.FnExactValidGraph': WHATEVER THE INPUT: true; the input reads as it did. -/
def fnExactValidGraphSpec : ChangeSpec := { name := "fnExactValidGraph", fn := fun _ => fun
  | [d] => { results := [.lit (.bool true)], args := [d] }
  | _ => none }
def fnExactValidGraphRow : OpenClaim := { program := "ytnbkifpmoegaaaa", sum := "06dd23e3b3bca4074434e120795a07b48d2786e78d8d795522a01cecee027696", func := "loop.example/strategiesthatspread/laws.FnExactValidGraph", spec := "fnExactValidGraph", plainKeys := false, apart := false }
def FnExactValidGraphSaid : Prop := fnExactValidGraphRow.holds Try.pinned (OpenSpec.ofChange fnExactValidGraphSpec)

/-- ITS FALSE NEIGHBOUR: 'it returns false'. Refute it at one input. -/
def fnExactValidGraphWrong : ChangeSpec := { name := "fnExactValidGraph", fn := fun _ => fun
  | [d] => { results := [.lit (.bool false)], args := [d] }
  | _ => none }
def FnExactValidGraphWrongFalsely : Prop := fnExactValidGraphRow.holds Try.pinned (OpenSpec.ofChange fnExactValidGraphWrong)

/-- 'laws.FnExactBirthDrift': WHATEVER THE INPUT: true; the input reads as it did. -/
def fnExactBirthDriftSpec : ChangeSpec := { name := "fnExactBirthDrift", fn := fun _ => fun
  | [d1, d2, d3] => { results := [.lit (.bool true)], args := [d1, d2, d3] }
  | _ => none }
def fnExactBirthDriftRow : OpenClaim := { program := "ytnbkifpmoegaaaa", sum := "06dd23e3b3bca4074434e120795a07b48d2786e78d8d795522a01cecee027696", func := "loop.example/strategiesthatspread/laws.FnExactBirthDrift", spec := "fnExactBirthDrift", plainKeys := false, apart := false }
def FnExactBirthDriftSaid : Prop := fnExactBirthDriftRow.holds Try.pinned (OpenSpec.ofChange fnExactBirthDriftSpec)

/-- ITS FALSE NEIGHBOUR: 'it returns false'. Refute it at one input. -/
def fnExactBirthDriftWrong : ChangeSpec := { name := "fnExactBirthDrift", fn := fun _ => fun
  | [d1, d2, d3] => { results := [.lit (.bool false)], args := [d1, d2, d3] }
  | _ => none }
def FnExactBirthDriftWrongFalsely : Prop := fnExactBirthDriftRow.holds Try.pinned (OpenSpec.ofChange fnExactBirthDriftWrong)

/-- 'laws.FnExactDeathDrift': WHATEVER THE INPUT: true; the input reads as it did. -/
def fnExactDeathDriftSpec : ChangeSpec := { name := "fnExactDeathDrift", fn := fun _ => fun
  | [d1, d2, d3] => { results := [.lit (.bool true)], args := [d1, d2, d3] }
  | _ => none }
def fnExactDeathDriftRow : OpenClaim := { program := "ytnbkifpmoegaaaa", sum := "06dd23e3b3bca4074434e120795a07b48d2786e78d8d795522a01cecee027696", func := "loop.example/strategiesthatspread/laws.FnExactDeathDrift", spec := "fnExactDeathDrift", plainKeys := false, apart := false }
def FnExactDeathDriftSaid : Prop := fnExactDeathDriftRow.holds Try.pinned (OpenSpec.ofChange fnExactDeathDriftSpec)

/-- ITS FALSE NEIGHBOUR: 'it returns false'. Refute it at one input. -/
def fnExactDeathDriftWrong : ChangeSpec := { name := "fnExactDeathDrift", fn := fun _ => fun
  | [d1, d2, d3] => { results := [.lit (.bool false)], args := [d1, d2, d3] }
  | _ => none }
def FnExactDeathDriftWrongFalsely : Prop := fnExactDeathDriftRow.holds Try.pinned (OpenSpec.ofChange fnExactDeathDriftWrong)

/-- 'laws.FnExactPlaceChances': WHATEVER THE INPUT: true; the input reads as it did. -/
def fnExactPlaceChancesSpec : ChangeSpec := { name := "fnExactPlaceChances", fn := fun _ => fun
  | [d1, d2] => { results := [.lit (.bool true)], args := [d1, d2] }
  | _ => none }
def fnExactPlaceChancesRow : OpenClaim := { program := "ytnbkifpmoegaaaa", sum := "06dd23e3b3bca4074434e120795a07b48d2786e78d8d795522a01cecee027696", func := "loop.example/strategiesthatspread/laws.FnExactPlaceChances", spec := "fnExactPlaceChances", plainKeys := false, apart := false }
def FnExactPlaceChancesSaid : Prop := fnExactPlaceChancesRow.holds Try.pinned (OpenSpec.ofChange fnExactPlaceChancesSpec)

/-- ITS FALSE NEIGHBOUR: 'it returns false'. Refute it at one input. -/
def fnExactPlaceChancesWrong : ChangeSpec := { name := "fnExactPlaceChances", fn := fun _ => fun
  | [d1, d2] => { results := [.lit (.bool false)], args := [d1, d2] }
  | _ => none }
def FnExactPlaceChancesWrongFalsely : Prop := fnExactPlaceChancesRow.holds Try.pinned (OpenSpec.ofChange fnExactPlaceChancesWrong)

/-- 'laws.FnExactCopyRing': WHATEVER THE INPUT: true; the input reads as it did. -/
def fnExactCopyRingSpec : ChangeSpec := { name := "fnExactCopyRing", fn := fun _ => fun
  | [d1, d2] => { results := [.lit (.bool true)], args := [d1, d2] }
  | _ => none }
def fnExactCopyRingRow : OpenClaim := { program := "ytnbkifpmoegaaaa", sum := "06dd23e3b3bca4074434e120795a07b48d2786e78d8d795522a01cecee027696", func := "loop.example/strategiesthatspread/laws.FnExactCopyRing", spec := "fnExactCopyRing", plainKeys := false, apart := false }
def FnExactCopyRingSaid : Prop := fnExactCopyRingRow.holds Try.pinned (OpenSpec.ofChange fnExactCopyRingSpec)

/-- ITS FALSE NEIGHBOUR: 'it returns false'. Refute it at one input. -/
def fnExactCopyRingWrong : ChangeSpec := { name := "fnExactCopyRing", fn := fun _ => fun
  | [d1, d2] => { results := [.lit (.bool false)], args := [d1, d2] }
  | _ => none }
def FnExactCopyRingWrongFalsely : Prop := fnExactCopyRingRow.holds Try.pinned (OpenSpec.ofChange fnExactCopyRingWrong)

/-- 'laws.FnExactRingCycle': WHATEVER THE INPUT: true; the input reads as it did. -/
def fnExactRingCycleSpec : ChangeSpec := { name := "fnExactRingCycle", fn := fun _ => fun
  | [d1, d2] => { results := [.lit (.bool true)], args := [d1, d2] }
  | _ => none }
def fnExactRingCycleRow : OpenClaim := { program := "ytnbkifpmoegaaaa", sum := "06dd23e3b3bca4074434e120795a07b48d2786e78d8d795522a01cecee027696", func := "loop.example/strategiesthatspread/laws.FnExactRingCycle", spec := "fnExactRingCycle", plainKeys := false, apart := false }
def FnExactRingCycleSaid : Prop := fnExactRingCycleRow.holds Try.pinned (OpenSpec.ofChange fnExactRingCycleSpec)

/-- ITS FALSE NEIGHBOUR: 'it returns false'. Refute it at one input. -/
def fnExactRingCycleWrong : ChangeSpec := { name := "fnExactRingCycle", fn := fun _ => fun
  | [d1, d2] => { results := [.lit (.bool false)], args := [d1, d2] }
  | _ => none }
def FnExactRingCycleWrongFalsely : Prop := fnExactRingCycleRow.holds Try.pinned (OpenSpec.ofChange fnExactRingCycleWrong)

/- THE SECOND FORM. 'bulk': how many values and letters a reading holds, each counted each time it is reached (what is shared counts as often as it is met; a slice's spare places count too). A statement '..UptoSaid' is the law's where the arguments, and the package variables that the reading takes, are together of bulk at most 1048576: NARROWER than '..Said'. Prove '..Said' where nothing that the law and all that it calls make is longer than what came in: it says more and counts as full. Else prove '..UptoSaid'. A law counts once. -/
mutual
def uptoBulk {H : Type} : DataW H → Nat
  | .lit (.string bytes) => bytes.length + 1
  | .lit _ => 1
  | .nil => 1
  | .ptr d => uptoBulk d + 1
  | .slice elems spare => uptoBulkAll elems + uptoBulkAll spare + 1
  | .agg parts => uptoBulkAll parts + 1
  | .iface _ d => uptoBulk d + 1
  | .map entries => uptoBulkEntries entries + 1
  | .held _ => 1
def uptoBulkAll {H : Type} : List (DataW H) → Nat
  | [] => 0
  | d :: r => uptoBulk d + uptoBulkAll r
def uptoBulkEntries {H : Type} : List (Lit × DataW H) → Nat
  | [] => 0
  | x :: r => uptoBulkEntry x + uptoBulkEntries r
def uptoBulkEntry {H : Type} : Lit × DataW H → Nat
  | (.string bytes, d) => bytes.length + uptoBulk d + 1
  | (_, d) => uptoBulk d + 1
 end
def uptoSmall : (H : Type) → List (DataW H) → Bool := fun _ ds => decide (uptoBulkAll ds ≤ 1048576)
def OpenSpec.upto (s : _root_.Go.ChangeSpec) : _root_.Go.OpenSpec := { _root_.Go.OpenSpec.ofChange s with cond := some uptoSmall }

/-- 'laws.FnValidGraph', WHERE WHAT IT READS IS OF BULK AT MOST 1048576: true; the input reads as it did. -/
def fnValidGraphUptoRow : OpenClaim := { program := "ytnbkifpmoegaaaa", sum := "06dd23e3b3bca4074434e120795a07b48d2786e78d8d795522a01cecee027696", func := "loop.example/strategiesthatspread/laws.FnValidGraph", spec := "fnValidGraph", plainKeys := false, apart := false, narrowed := true }
def FnValidGraphUptoSaid : Prop := fnValidGraphUptoRow.holds Try.pinned (OpenSpec.upto fnValidGraphSpec)

/-- 'laws.FnCopyRing', WHERE WHAT IT READS IS OF BULK AT MOST 1048576: true; the input reads as it did. -/
def fnCopyRingUptoRow : OpenClaim := { program := "ytnbkifpmoegaaaa", sum := "06dd23e3b3bca4074434e120795a07b48d2786e78d8d795522a01cecee027696", func := "loop.example/strategiesthatspread/laws.FnCopyRing", spec := "fnCopyRing", plainKeys := false, apart := false, narrowed := true }
def FnCopyRingUptoSaid : Prop := fnCopyRingUptoRow.holds Try.pinned (OpenSpec.upto fnCopyRingSpec)

/-- 'laws.FnRingCycle', WHERE WHAT IT READS IS OF BULK AT MOST 1048576: true; the input reads as it did. -/
def fnRingCycleUptoRow : OpenClaim := { program := "ytnbkifpmoegaaaa", sum := "06dd23e3b3bca4074434e120795a07b48d2786e78d8d795522a01cecee027696", func := "loop.example/strategiesthatspread/laws.FnRingCycle", spec := "fnRingCycle", plainKeys := false, apart := false, narrowed := true }
def FnRingCycleUptoSaid : Prop := fnRingCycleUptoRow.holds Try.pinned (OpenSpec.upto fnRingCycleSpec)

/-- 'laws.FnExactValidGraph', WHERE WHAT IT READS IS OF BULK AT MOST 1048576: true; the input reads as it did. -/
def fnExactValidGraphUptoRow : OpenClaim := { program := "ytnbkifpmoegaaaa", sum := "06dd23e3b3bca4074434e120795a07b48d2786e78d8d795522a01cecee027696", func := "loop.example/strategiesthatspread/laws.FnExactValidGraph", spec := "fnExactValidGraph", plainKeys := false, apart := false, narrowed := true }
def FnExactValidGraphUptoSaid : Prop := fnExactValidGraphUptoRow.holds Try.pinned (OpenSpec.upto fnExactValidGraphSpec)

/-- 'laws.FnExactBirthDrift', WHERE WHAT IT READS IS OF BULK AT MOST 1048576: true; the input reads as it did. -/
def fnExactBirthDriftUptoRow : OpenClaim := { program := "ytnbkifpmoegaaaa", sum := "06dd23e3b3bca4074434e120795a07b48d2786e78d8d795522a01cecee027696", func := "loop.example/strategiesthatspread/laws.FnExactBirthDrift", spec := "fnExactBirthDrift", plainKeys := false, apart := false, narrowed := true }
def FnExactBirthDriftUptoSaid : Prop := fnExactBirthDriftUptoRow.holds Try.pinned (OpenSpec.upto fnExactBirthDriftSpec)

/-- 'laws.FnExactDeathDrift', WHERE WHAT IT READS IS OF BULK AT MOST 1048576: true; the input reads as it did. -/
def fnExactDeathDriftUptoRow : OpenClaim := { program := "ytnbkifpmoegaaaa", sum := "06dd23e3b3bca4074434e120795a07b48d2786e78d8d795522a01cecee027696", func := "loop.example/strategiesthatspread/laws.FnExactDeathDrift", spec := "fnExactDeathDrift", plainKeys := false, apart := false, narrowed := true }
def FnExactDeathDriftUptoSaid : Prop := fnExactDeathDriftUptoRow.holds Try.pinned (OpenSpec.upto fnExactDeathDriftSpec)

/-- 'laws.FnExactPlaceChances', WHERE WHAT IT READS IS OF BULK AT MOST 1048576: true; the input reads as it did. -/
def fnExactPlaceChancesUptoRow : OpenClaim := { program := "ytnbkifpmoegaaaa", sum := "06dd23e3b3bca4074434e120795a07b48d2786e78d8d795522a01cecee027696", func := "loop.example/strategiesthatspread/laws.FnExactPlaceChances", spec := "fnExactPlaceChances", plainKeys := false, apart := false, narrowed := true }
def FnExactPlaceChancesUptoSaid : Prop := fnExactPlaceChancesUptoRow.holds Try.pinned (OpenSpec.upto fnExactPlaceChancesSpec)

/-- 'laws.FnExactCopyRing', WHERE WHAT IT READS IS OF BULK AT MOST 1048576: true; the input reads as it did. -/
def fnExactCopyRingUptoRow : OpenClaim := { program := "ytnbkifpmoegaaaa", sum := "06dd23e3b3bca4074434e120795a07b48d2786e78d8d795522a01cecee027696", func := "loop.example/strategiesthatspread/laws.FnExactCopyRing", spec := "fnExactCopyRing", plainKeys := false, apart := false, narrowed := true }
def FnExactCopyRingUptoSaid : Prop := fnExactCopyRingUptoRow.holds Try.pinned (OpenSpec.upto fnExactCopyRingSpec)

/-- 'laws.FnExactRingCycle', WHERE WHAT IT READS IS OF BULK AT MOST 1048576: true; the input reads as it did. -/
def fnExactRingCycleUptoRow : OpenClaim := { program := "ytnbkifpmoegaaaa", sum := "06dd23e3b3bca4074434e120795a07b48d2786e78d8d795522a01cecee027696", func := "loop.example/strategiesthatspread/laws.FnExactRingCycle", spec := "fnExactRingCycle", plainKeys := false, apart := false, narrowed := true }
def FnExactRingCycleUptoSaid : Prop := fnExactRingCycleUptoRow.holds Try.pinned (OpenSpec.upto fnExactRingCycleSpec)

end Rows
end Go.Proofs.Ytnbkifpmoegaaaa
