/-
  No cell of these rows narrows 'for every input' (looked for: loops, veiled, ifaces, maps, wideKeys, modest, calm, conditions, laid).
  DERIVED. THE GIVEN ROWS OF THIS SEAT. 9 by the template 'for every input the law returns true; each argument reads behind the call as it read before'; 0 by the template 'total and deterministic' (their statements: YtbmacoppeidhaaaTotals.lean).
  GIVEN WITH THE SEED: the statements are not yours to turn. If you find one false, say at which input.
  Laid BY PROGRAM, IN A SANDBOX (cutbox-rows.mjs): the forced cells as the released guide's own fill.sh prints them over the translation 5451ffafdc3ac117… (all of the seat's roots in one cut). By AI agents, Wed Nov 11 2026. No macro, syntax, notation, axiom, sorry.
-/
import Derived.Test.YtbmacoppeidhaaaChecked
import GoSem.Claim
import GoSem.ClaimJoined
import GoSem.ClaimMapViews
import Derived.JoinedTies
import Derived.KernelRfl
namespace Go.Proofs.Ytbmacoppeidhaaa
/- THE CELL 'sum', in the pinned program and in every row, IS THE sha256 OF THE DUMP (.gsa) THAT YtbmacoppeidhaaaProg.lean LOADS. Nothing in Lean hashes anything: it is a label: what it is worth is what the hold of that sum in a sandbox is worth. -/
noncomputable def Try.pinned : Pinned := { name := "ytbmacoppeidhaaa", sum := "5451ffafdc3ac11794f06f07bea0674ad2b00d91eb0d0190b1c92d5a9b7d5598", checked := Try.checked }
namespace Rows
def none {H : Type} : Left H := { results := [], args := [] }

/-- 'laws.FnExactCopyRing': WHATEVER THE INPUT: true; the input reads as it did. -/
def fnExactCopyRingSpec : ChangeSpec := { name := "fnExactCopyRing", fn := fun _ => fun
  | [d1, d2] => { results := [.lit (.bool true)], args := [d1, d2] }
  | _ => none }
def fnExactCopyRingRow : OpenClaim := { program := "ytbmacoppeidhaaa", sum := "5451ffafdc3ac11794f06f07bea0674ad2b00d91eb0d0190b1c92d5a9b7d5598", func := "loop.example/strategiesthatspread/laws.FnExactCopyRing", spec := "fnExactCopyRing", plainKeys := false, apart := false }
def FnExactCopyRingSaid : Prop := fnExactCopyRingRow.holds Try.pinned (OpenSpec.ofChange fnExactCopyRingSpec)

/-- ITS FALSE NEIGHBOUR: 'it returns false'. Refute it at one input. -/
def fnExactCopyRingWrong : ChangeSpec := { name := "fnExactCopyRing", fn := fun _ => fun
  | [d1, d2] => { results := [.lit (.bool false)], args := [d1, d2] }
  | _ => none }
def FnExactCopyRingWrongFalsely : Prop := fnExactCopyRingRow.holds Try.pinned (OpenSpec.ofChange fnExactCopyRingWrong)

/-- 'laws.FnExactRingCycle': WHATEVER THE INPUT: true; the input reads as it did. -/
def fnExactRingCycleSpec : ChangeSpec := { name := "fnExactRingCycle", fn := fun _ => fun
  | [d1, d2] => { results := [.lit (.bool true)], args := [d1, d2] }
  | _ => none }
def fnExactRingCycleRow : OpenClaim := { program := "ytbmacoppeidhaaa", sum := "5451ffafdc3ac11794f06f07bea0674ad2b00d91eb0d0190b1c92d5a9b7d5598", func := "loop.example/strategiesthatspread/laws.FnExactRingCycle", spec := "fnExactRingCycle", plainKeys := false, apart := false }
def FnExactRingCycleSaid : Prop := fnExactRingCycleRow.holds Try.pinned (OpenSpec.ofChange fnExactRingCycleSpec)

/-- ITS FALSE NEIGHBOUR: 'it returns false'. Refute it at one input. -/
def fnExactRingCycleWrong : ChangeSpec := { name := "fnExactRingCycle", fn := fun _ => fun
  | [d1, d2] => { results := [.lit (.bool false)], args := [d1, d2] }
  | _ => none }
def FnExactRingCycleWrongFalsely : Prop := fnExactRingCycleRow.holds Try.pinned (OpenSpec.ofChange fnExactRingCycleWrong)

/-- 'laws.FnCopyRing': WHATEVER THE INPUT: true; the input reads as it did. -/
def fnCopyRingSpec : ChangeSpec := { name := "fnCopyRing", fn := fun _ => fun
  | [d] => { results := [.lit (.bool true)], args := [d] }
  | _ => none }
def fnCopyRingRow : OpenClaim := { program := "ytbmacoppeidhaaa", sum := "5451ffafdc3ac11794f06f07bea0674ad2b00d91eb0d0190b1c92d5a9b7d5598", func := "loop.example/strategiesthatspread/laws.FnCopyRing", spec := "fnCopyRing", plainKeys := false, apart := false }
def FnCopyRingSaid : Prop := fnCopyRingRow.holds Try.pinned (OpenSpec.ofChange fnCopyRingSpec)

/-- ITS FALSE NEIGHBOUR: 'it returns false'. Refute it at one input. -/
def fnCopyRingWrong : ChangeSpec := { name := "fnCopyRing", fn := fun _ => fun
  | [d] => { results := [.lit (.bool false)], args := [d] }
  | _ => none }
def FnCopyRingWrongFalsely : Prop := fnCopyRingRow.holds Try.pinned (OpenSpec.ofChange fnCopyRingWrong)

/-- 'laws.FnRingCycle': WHATEVER THE INPUT: true; the input reads as it did. -/
def fnRingCycleSpec : ChangeSpec := { name := "fnRingCycle", fn := fun _ => fun
  | [d] => { results := [.lit (.bool true)], args := [d] }
  | _ => none }
def fnRingCycleRow : OpenClaim := { program := "ytbmacoppeidhaaa", sum := "5451ffafdc3ac11794f06f07bea0674ad2b00d91eb0d0190b1c92d5a9b7d5598", func := "loop.example/strategiesthatspread/laws.FnRingCycle", spec := "fnRingCycle", plainKeys := false, apart := false }
def FnRingCycleSaid : Prop := fnRingCycleRow.holds Try.pinned (OpenSpec.ofChange fnRingCycleSpec)

/-- ITS FALSE NEIGHBOUR: 'it returns false'. Refute it at one input. -/
def fnRingCycleWrong : ChangeSpec := { name := "fnRingCycle", fn := fun _ => fun
  | [d] => { results := [.lit (.bool false)], args := [d] }
  | _ => none }
def FnRingCycleWrongFalsely : Prop := fnRingCycleRow.holds Try.pinned (OpenSpec.ofChange fnRingCycleWrong)

/-- 'laws.FnLeftOver': WHATEVER THE INPUT: true; the input reads as it did. -/
def fnLeftOverSpec : ChangeSpec := { name := "fnLeftOver", fn := fun _ => fun
  | [d] => { results := [.lit (.bool true)], args := [d] }
  | _ => none }
def fnLeftOverRow : OpenClaim := { program := "ytbmacoppeidhaaa", sum := "5451ffafdc3ac11794f06f07bea0674ad2b00d91eb0d0190b1c92d5a9b7d5598", func := "loop.example/strategiesthatspread/laws.FnLeftOver", spec := "fnLeftOver", plainKeys := false, apart := false }
def FnLeftOverSaid : Prop := fnLeftOverRow.holds Try.pinned (OpenSpec.ofChange fnLeftOverSpec)

/-- ITS FALSE NEIGHBOUR: 'it returns false'. Refute it at one input. -/
def fnLeftOverWrong : ChangeSpec := { name := "fnLeftOver", fn := fun _ => fun
  | [d] => { results := [.lit (.bool false)], args := [d] }
  | _ => none }
def FnLeftOverWrongFalsely : Prop := fnLeftOverRow.holds Try.pinned (OpenSpec.ofChange fnLeftOverWrong)

/-- 'laws.FnExactLeftOver': WHATEVER THE INPUT: true; the input reads as it did. -/
def fnExactLeftOverSpec : ChangeSpec := { name := "fnExactLeftOver", fn := fun _ => fun
  | [d] => { results := [.lit (.bool true)], args := [d] }
  | _ => none }
def fnExactLeftOverRow : OpenClaim := { program := "ytbmacoppeidhaaa", sum := "5451ffafdc3ac11794f06f07bea0674ad2b00d91eb0d0190b1c92d5a9b7d5598", func := "loop.example/strategiesthatspread/laws.FnExactLeftOver", spec := "fnExactLeftOver", plainKeys := false, apart := false }
def FnExactLeftOverSaid : Prop := fnExactLeftOverRow.holds Try.pinned (OpenSpec.ofChange fnExactLeftOverSpec)

/-- ITS FALSE NEIGHBOUR: 'it returns false'. Refute it at one input. -/
def fnExactLeftOverWrong : ChangeSpec := { name := "fnExactLeftOver", fn := fun _ => fun
  | [d] => { results := [.lit (.bool false)], args := [d] }
  | _ => none }
def FnExactLeftOverWrongFalsely : Prop := fnExactLeftOverRow.holds Try.pinned (OpenSpec.ofChange fnExactLeftOverWrong)

/-- 'laws.FnExactPotentialOf': WHATEVER THE INPUT: true; the input reads as it did. -/
def fnExactPotentialOfSpec : ChangeSpec := { name := "fnExactPotentialOf", fn := fun _ => fun
  | [d] => { results := [.lit (.bool true)], args := [d] }
  | _ => none }
def fnExactPotentialOfRow : OpenClaim := { program := "ytbmacoppeidhaaa", sum := "5451ffafdc3ac11794f06f07bea0674ad2b00d91eb0d0190b1c92d5a9b7d5598", func := "loop.example/strategiesthatspread/laws.FnExactPotentialOf", spec := "fnExactPotentialOf", plainKeys := false, apart := false }
def FnExactPotentialOfSaid : Prop := fnExactPotentialOfRow.holds Try.pinned (OpenSpec.ofChange fnExactPotentialOfSpec)

/-- ITS FALSE NEIGHBOUR: 'it returns false'. Refute it at one input. -/
def fnExactPotentialOfWrong : ChangeSpec := { name := "fnExactPotentialOf", fn := fun _ => fun
  | [d] => { results := [.lit (.bool false)], args := [d] }
  | _ => none }
def FnExactPotentialOfWrongFalsely : Prop := fnExactPotentialOfRow.holds Try.pinned (OpenSpec.ofChange fnExactPotentialOfWrong)

/-- 'laws.FnEvenHasPotential': WHATEVER THE INPUT: true; the input reads as it did. -/
def fnEvenHasPotentialSpec : ChangeSpec := { name := "fnEvenHasPotential", fn := fun _ => fun
  | [d] => { results := [.lit (.bool true)], args := [d] }
  | _ => none }
def fnEvenHasPotentialRow : OpenClaim := { program := "ytbmacoppeidhaaa", sum := "5451ffafdc3ac11794f06f07bea0674ad2b00d91eb0d0190b1c92d5a9b7d5598", func := "loop.example/strategiesthatspread/laws.FnEvenHasPotential", spec := "fnEvenHasPotential", plainKeys := false, apart := false }
def FnEvenHasPotentialSaid : Prop := fnEvenHasPotentialRow.holds Try.pinned (OpenSpec.ofChange fnEvenHasPotentialSpec)

/-- ITS FALSE NEIGHBOUR: 'it returns false'. Refute it at one input. -/
def fnEvenHasPotentialWrong : ChangeSpec := { name := "fnEvenHasPotential", fn := fun _ => fun
  | [d] => { results := [.lit (.bool false)], args := [d] }
  | _ => none }
def FnEvenHasPotentialWrongFalsely : Prop := fnEvenHasPotentialRow.holds Try.pinned (OpenSpec.ofChange fnEvenHasPotentialWrong)

/-- 'laws.FnFixedOnes': WHATEVER THE INPUT: true; the input reads as it did. -/
def fnFixedOnesSpec : ChangeSpec := { name := "fnFixedOnes", fn := fun _ => fun
  | [d] => { results := [.lit (.bool true)], args := [d] }
  | _ => none }
def fnFixedOnesRow : OpenClaim := { program := "ytbmacoppeidhaaa", sum := "5451ffafdc3ac11794f06f07bea0674ad2b00d91eb0d0190b1c92d5a9b7d5598", func := "loop.example/strategiesthatspread/laws.FnFixedOnes", spec := "fnFixedOnes", unfollowed := true, recurses := true, plainKeys := false, apart := false }
def FnFixedOnesSaid : Prop := fnFixedOnesRow.holds Try.pinned (OpenSpec.ofChange fnFixedOnesSpec)

/-- ITS FALSE NEIGHBOUR: 'it returns false'. Refute it at one input. -/
def fnFixedOnesWrong : ChangeSpec := { name := "fnFixedOnes", fn := fun _ => fun
  | [d] => { results := [.lit (.bool false)], args := [d] }
  | _ => none }
def FnFixedOnesWrongFalsely : Prop := fnFixedOnesRow.holds Try.pinned (OpenSpec.ofChange fnFixedOnesWrong)

/- THE SECOND FORM. 'bulk': how many values and letters a reading holds, each counted each time it is reached (what is shared counts as often as it is met; a slice's spare places count too). A statement '..UptoSaid' is the law's where the arguments, and the package variables that the reading takes, are together of bulk at most 1048576: NARROWER than '..Said'. Prove '..Said' where nothing that the law and all that it calls make is longer than what came in: it says more and counts as full. Else prove '..UptoSaid'. A law counts once. -/
mutual
def uptoBulk {H : Type} : DataW H → Nat
  | .lit (.string bytes) => bytes.length + 1
  | .lit _ => 1
  | .nil => 1
  | .ptr d => uptoBulk d + 1
  | .slice elems spare => uptoBulkAll elems + uptoBulkAll spare + 1
  | .agg parts => uptoBulkAll parts + 1
  | .iface _ d => uptoBulk d + 1
  | .map entries => uptoBulkEntries entries + 1
  | .held _ => 1
def uptoBulkAll {H : Type} : List (DataW H) → Nat
  | [] => 0
  | d :: r => uptoBulk d + uptoBulkAll r
def uptoBulkEntries {H : Type} : List (Lit × DataW H) → Nat
  | [] => 0
  | x :: r => uptoBulkEntry x + uptoBulkEntries r
def uptoBulkEntry {H : Type} : Lit × DataW H → Nat
  | (.string bytes, d) => bytes.length + uptoBulk d + 1
  | (_, d) => uptoBulk d + 1
 end
def uptoSmall : (H : Type) → List (DataW H) → Bool := fun _ ds => decide (uptoBulkAll ds ≤ 1048576)
def OpenSpec.upto (s : _root_.Go.ChangeSpec) : _root_.Go.OpenSpec := { _root_.Go.OpenSpec.ofChange s with cond := some uptoSmall }

/-- 'laws.FnExactCopyRing', WHERE WHAT IT READS IS OF BULK AT MOST 1048576: true; the input reads as it did. -/
def fnExactCopyRingUptoRow : OpenClaim := { program := "ytbmacoppeidhaaa", sum := "5451ffafdc3ac11794f06f07bea0674ad2b00d91eb0d0190b1c92d5a9b7d5598", func := "loop.example/strategiesthatspread/laws.FnExactCopyRing", spec := "fnExactCopyRing", plainKeys := false, apart := false, narrowed := true }
def FnExactCopyRingUptoSaid : Prop := fnExactCopyRingUptoRow.holds Try.pinned (OpenSpec.upto fnExactCopyRingSpec)

/-- 'laws.FnExactRingCycle', WHERE WHAT IT READS IS OF BULK AT MOST 1048576: true; the input reads as it did. -/
def fnExactRingCycleUptoRow : OpenClaim := { program := "ytbmacoppeidhaaa", sum := "5451ffafdc3ac11794f06f07bea0674ad2b00d91eb0d0190b1c92d5a9b7d5598", func := "loop.example/strategiesthatspread/laws.FnExactRingCycle", spec := "fnExactRingCycle", plainKeys := false, apart := false, narrowed := true }
def FnExactRingCycleUptoSaid : Prop := fnExactRingCycleUptoRow.holds Try.pinned (OpenSpec.upto fnExactRingCycleSpec)

/-- 'laws.FnCopyRing', WHERE WHAT IT READS IS OF BULK AT MOST 1048576: true; the input reads as it did. -/
def fnCopyRingUptoRow : OpenClaim := { program := "ytbmacoppeidhaaa", sum := "5451ffafdc3ac11794f06f07bea0674ad2b00d91eb0d0190b1c92d5a9b7d5598", func := "loop.example/strategiesthatspread/laws.FnCopyRing", spec := "fnCopyRing", plainKeys := false, apart := false, narrowed := true }
def FnCopyRingUptoSaid : Prop := fnCopyRingUptoRow.holds Try.pinned (OpenSpec.upto fnCopyRingSpec)

/-- 'laws.FnRingCycle', WHERE WHAT IT READS IS OF BULK AT MOST 1048576: true; the input reads as it did. -/
def fnRingCycleUptoRow : OpenClaim := { program := "ytbmacoppeidhaaa", sum := "5451ffafdc3ac11794f06f07bea0674ad2b00d91eb0d0190b1c92d5a9b7d5598", func := "loop.example/strategiesthatspread/laws.FnRingCycle", spec := "fnRingCycle", plainKeys := false, apart := false, narrowed := true }
def FnRingCycleUptoSaid : Prop := fnRingCycleUptoRow.holds Try.pinned (OpenSpec.upto fnRingCycleSpec)

/-- 'laws.FnLeftOver', WHERE WHAT IT READS IS OF BULK AT MOST 1048576: true; the input reads as it did. -/
def fnLeftOverUptoRow : OpenClaim := { program := "ytbmacoppeidhaaa", sum := "5451ffafdc3ac11794f06f07bea0674ad2b00d91eb0d0190b1c92d5a9b7d5598", func := "loop.example/strategiesthatspread/laws.FnLeftOver", spec := "fnLeftOver", plainKeys := false, apart := false, narrowed := true }
def FnLeftOverUptoSaid : Prop := fnLeftOverUptoRow.holds Try.pinned (OpenSpec.upto fnLeftOverSpec)

/-- 'laws.FnExactLeftOver', WHERE WHAT IT READS IS OF BULK AT MOST 1048576: true; the input reads as it did. -/
def fnExactLeftOverUptoRow : OpenClaim := { program := "ytbmacoppeidhaaa", sum := "5451ffafdc3ac11794f06f07bea0674ad2b00d91eb0d0190b1c92d5a9b7d5598", func := "loop.example/strategiesthatspread/laws.FnExactLeftOver", spec := "fnExactLeftOver", plainKeys := false, apart := false, narrowed := true }
def FnExactLeftOverUptoSaid : Prop := fnExactLeftOverUptoRow.holds Try.pinned (OpenSpec.upto fnExactLeftOverSpec)

/-- 'laws.FnExactPotentialOf', WHERE WHAT IT READS IS OF BULK AT MOST 1048576: true; the input reads as it did. -/
def fnExactPotentialOfUptoRow : OpenClaim := { program := "ytbmacoppeidhaaa", sum := "5451ffafdc3ac11794f06f07bea0674ad2b00d91eb0d0190b1c92d5a9b7d5598", func := "loop.example/strategiesthatspread/laws.FnExactPotentialOf", spec := "fnExactPotentialOf", plainKeys := false, apart := false, narrowed := true }
def FnExactPotentialOfUptoSaid : Prop := fnExactPotentialOfUptoRow.holds Try.pinned (OpenSpec.upto fnExactPotentialOfSpec)

/-- 'laws.FnEvenHasPotential', WHERE WHAT IT READS IS OF BULK AT MOST 1048576: true; the input reads as it did. -/
def fnEvenHasPotentialUptoRow : OpenClaim := { program := "ytbmacoppeidhaaa", sum := "5451ffafdc3ac11794f06f07bea0674ad2b00d91eb0d0190b1c92d5a9b7d5598", func := "loop.example/strategiesthatspread/laws.FnEvenHasPotential", spec := "fnEvenHasPotential", plainKeys := false, apart := false, narrowed := true }
def FnEvenHasPotentialUptoSaid : Prop := fnEvenHasPotentialUptoRow.holds Try.pinned (OpenSpec.upto fnEvenHasPotentialSpec)

/-- 'laws.FnFixedOnes', WHERE WHAT IT READS IS OF BULK AT MOST 1048576: true; the input reads as it did. -/
def fnFixedOnesUptoRow : OpenClaim := { program := "ytbmacoppeidhaaa", sum := "5451ffafdc3ac11794f06f07bea0674ad2b00d91eb0d0190b1c92d5a9b7d5598", func := "loop.example/strategiesthatspread/laws.FnFixedOnes", spec := "fnFixedOnes", unfollowed := true, recurses := true, plainKeys := false, apart := false, narrowed := true }
def FnFixedOnesUptoSaid : Prop := fnFixedOnesUptoRow.holds Try.pinned (OpenSpec.upto fnFixedOnesSpec)

end Rows
end Go.Proofs.Ytbmacoppeidhaaa
