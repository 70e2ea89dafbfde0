/-
  No cell of these rows narrows 'for every input' (looked for: loops, veiled, ifaces, maps, wideKeys, modest, calm, conditions, laid).
  DERIVED. THE GIVEN ROWS OF THIS SEAT. 11 by the template 'for every input the law returns true; each argument reads behind the call as it read before'; 0 by the template 'total and deterministic' (their statements: YtfilbknikbfjhaaTotals.lean).
  GIVEN WITH THE SEED: the statements are not yours to turn. If you find one false, say at which input.
  Laid BY PROGRAM, IN A SANDBOX (cutbox-rows.mjs): the forced cells as the released guide's own fill.sh prints them over the translation bff2f2524f37a505… (all of the seat's roots in one cut). By AI agents, Wed Nov 11 2026. No macro, syntax, notation, axiom, sorry.
-/
import Derived.Test.YtfilbknikbfjhaaChecked
import GoSem.Claim
import GoSem.ClaimJoined
import GoSem.ClaimMapViews
import Derived.JoinedTies
import Derived.KernelRfl
namespace Go.Proofs.Ytfilbknikbfjhaa
/- THE CELL 'sum', in the pinned program and in every row, IS THE sha256 OF THE DUMP (.gsa) THAT YtfilbknikbfjhaaProg.lean LOADS. Nothing in Lean hashes anything: it is a label: what it is worth is what the hold of that sum in a sandbox is worth. -/
noncomputable def Try.pinned : Pinned := { name := "ytfilbknikbfjhaa", sum := "bff2f2524f37a505873c849fe0e0fac10f3946b2b2b384d5bfa08b9ed5df6595", checked := Try.checked }
namespace Rows
def none {H : Type} : Left H := { results := [], args := [] }

/-- 'laws.FnLeftOver': WHATEVER THE INPUT: true; the input reads as it did. -/
def fnLeftOverSpec : ChangeSpec := { name := "fnLeftOver", fn := fun _ => fun
  | [d] => { results := [.lit (.bool true)], args := [d] }
  | _ => none }
def fnLeftOverRow : OpenClaim := { program := "ytfilbknikbfjhaa", sum := "bff2f2524f37a505873c849fe0e0fac10f3946b2b2b384d5bfa08b9ed5df6595", func := "loop.example/strategiesthatspread/laws.FnLeftOver", spec := "fnLeftOver", apart := false }
def FnLeftOverSaid : Prop := fnLeftOverRow.holds Try.pinned (OpenSpec.ofChange fnLeftOverSpec)

/-- ITS FALSE NEIGHBOUR: 'it returns false'. Refute it at one input. -/
def fnLeftOverWrong : ChangeSpec := { name := "fnLeftOver", fn := fun _ => fun
  | [d] => { results := [.lit (.bool false)], args := [d] }
  | _ => none }
def FnLeftOverWrongFalsely : Prop := fnLeftOverRow.holds Try.pinned (OpenSpec.ofChange fnLeftOverWrong)

/-- 'laws.FnNoRounds': WHATEVER THE INPUT: true; the input reads as it did. -/
def fnNoRoundsSpec : ChangeSpec := { name := "fnNoRounds", fn := fun _ => fun
  | [d] => { results := [.lit (.bool true)], args := [d] }
  | _ => none }
def fnNoRoundsRow : OpenClaim := { program := "ytfilbknikbfjhaa", sum := "bff2f2524f37a505873c849fe0e0fac10f3946b2b2b384d5bfa08b9ed5df6595", func := "loop.example/strategiesthatspread/laws.FnNoRounds", spec := "fnNoRounds", apart := false }
def FnNoRoundsSaid : Prop := fnNoRoundsRow.holds Try.pinned (OpenSpec.ofChange fnNoRoundsSpec)

/-- ITS FALSE NEIGHBOUR: 'it returns false'. Refute it at one input. -/
def fnNoRoundsWrong : ChangeSpec := { name := "fnNoRounds", fn := fun _ => fun
  | [d] => { results := [.lit (.bool false)], args := [d] }
  | _ => none }
def FnNoRoundsWrongFalsely : Prop := fnNoRoundsRow.holds Try.pinned (OpenSpec.ofChange fnNoRoundsWrong)

/-- 'laws.FnExactLeftOver': WHATEVER THE INPUT: true; the input reads as it did. -/
def fnExactLeftOverSpec : ChangeSpec := { name := "fnExactLeftOver", fn := fun _ => fun
  | [d] => { results := [.lit (.bool true)], args := [d] }
  | _ => none }
def fnExactLeftOverRow : OpenClaim := { program := "ytfilbknikbfjhaa", sum := "bff2f2524f37a505873c849fe0e0fac10f3946b2b2b384d5bfa08b9ed5df6595", func := "loop.example/strategiesthatspread/laws.FnExactLeftOver", spec := "fnExactLeftOver", apart := false }
def FnExactLeftOverSaid : Prop := fnExactLeftOverRow.holds Try.pinned (OpenSpec.ofChange fnExactLeftOverSpec)

/-- ITS FALSE NEIGHBOUR: 'it returns false'. Refute it at one input. -/
def fnExactLeftOverWrong : ChangeSpec := { name := "fnExactLeftOver", fn := fun _ => fun
  | [d] => { results := [.lit (.bool false)], args := [d] }
  | _ => none }
def FnExactLeftOverWrongFalsely : Prop := fnExactLeftOverRow.holds Try.pinned (OpenSpec.ofChange fnExactLeftOverWrong)

/-- 'laws.FnExactPotentialOf': WHATEVER THE INPUT: true; the input reads as it did. -/
def fnExactPotentialOfSpec : ChangeSpec := { name := "fnExactPotentialOf", fn := fun _ => fun
  | [d] => { results := [.lit (.bool true)], args := [d] }
  | _ => none }
def fnExactPotentialOfRow : OpenClaim := { program := "ytfilbknikbfjhaa", sum := "bff2f2524f37a505873c849fe0e0fac10f3946b2b2b384d5bfa08b9ed5df6595", func := "loop.example/strategiesthatspread/laws.FnExactPotentialOf", spec := "fnExactPotentialOf", apart := false }
def FnExactPotentialOfSaid : Prop := fnExactPotentialOfRow.holds Try.pinned (OpenSpec.ofChange fnExactPotentialOfSpec)

/-- ITS FALSE NEIGHBOUR: 'it returns false'. Refute it at one input. -/
def fnExactPotentialOfWrong : ChangeSpec := { name := "fnExactPotentialOf", fn := fun _ => fun
  | [d] => { results := [.lit (.bool false)], args := [d] }
  | _ => none }
def FnExactPotentialOfWrongFalsely : Prop := fnExactPotentialOfRow.holds Try.pinned (OpenSpec.ofChange fnExactPotentialOfWrong)

/-- 'laws.FnBarrierOf': WHATEVER THE INPUT: true; the input reads as it did. -/
def fnBarrierOfSpec : ChangeSpec := { name := "fnBarrierOf", fn := fun _ => fun
  | [d] => { results := [.lit (.bool true)], args := [d] }
  | _ => none }
def fnBarrierOfRow : OpenClaim := { program := "ytfilbknikbfjhaa", sum := "bff2f2524f37a505873c849fe0e0fac10f3946b2b2b384d5bfa08b9ed5df6595", func := "loop.example/strategiesthatspread/laws.FnBarrierOf", spec := "fnBarrierOf", unfollowed := true, recurses := true, apart := false }
def FnBarrierOfSaid : Prop := fnBarrierOfRow.holds Try.pinned (OpenSpec.ofChange fnBarrierOfSpec)

/-- ITS FALSE NEIGHBOUR: 'it returns false'. Refute it at one input. -/
def fnBarrierOfWrong : ChangeSpec := { name := "fnBarrierOf", fn := fun _ => fun
  | [d] => { results := [.lit (.bool false)], args := [d] }
  | _ => none }
def FnBarrierOfWrongFalsely : Prop := fnBarrierOfRow.holds Try.pinned (OpenSpec.ofChange fnBarrierOfWrong)

/-- 'laws.FnStableIsRest': WHATEVER THE INPUT: true; the input reads as it did. -/
def fnStableIsRestSpec : ChangeSpec := { name := "fnStableIsRest", fn := fun _ => fun
  | [d] => { results := [.lit (.bool true)], args := [d] }
  | _ => none }
def fnStableIsRestRow : OpenClaim := { program := "ytfilbknikbfjhaa", sum := "bff2f2524f37a505873c849fe0e0fac10f3946b2b2b384d5bfa08b9ed5df6595", func := "loop.example/strategiesthatspread/laws.FnStableIsRest", spec := "fnStableIsRest", unfollowed := true, recurses := true, apart := false }
def FnStableIsRestSaid : Prop := fnStableIsRestRow.holds Try.pinned (OpenSpec.ofChange fnStableIsRestSpec)

/-- ITS FALSE NEIGHBOUR: 'it returns false'. Refute it at one input. -/
def fnStableIsRestWrong : ChangeSpec := { name := "fnStableIsRest", fn := fun _ => fun
  | [d] => { results := [.lit (.bool false)], args := [d] }
  | _ => none }
def FnStableIsRestWrongFalsely : Prop := fnStableIsRestRow.holds Try.pinned (OpenSpec.ofChange fnStableIsRestWrong)

/-- 'laws.FnExactValidSquare': WHATEVER THE INPUT: true; the input reads as it did. -/
def fnExactValidSquareSpec : ChangeSpec := { name := "fnExactValidSquare", fn := fun _ => fun
  | [d] => { results := [.lit (.bool true)], args := [d] }
  | _ => none }
def fnExactValidSquareRow : OpenClaim := { program := "ytfilbknikbfjhaa", sum := "bff2f2524f37a505873c849fe0e0fac10f3946b2b2b384d5bfa08b9ed5df6595", func := "loop.example/strategiesthatspread/laws.FnExactValidSquare", spec := "fnExactValidSquare", apart := false }
def FnExactValidSquareSaid : Prop := fnExactValidSquareRow.holds Try.pinned (OpenSpec.ofChange fnExactValidSquareSpec)

/-- ITS FALSE NEIGHBOUR: 'it returns false'. Refute it at one input. -/
def fnExactValidSquareWrong : ChangeSpec := { name := "fnExactValidSquare", fn := fun _ => fun
  | [d] => { results := [.lit (.bool false)], args := [d] }
  | _ => none }
def FnExactValidSquareWrongFalsely : Prop := fnExactValidSquareRow.holds Try.pinned (OpenSpec.ofChange fnExactValidSquareWrong)

/-- 'laws.FnExactStableOf': WHATEVER THE INPUT: true; the input reads as it did. -/
def fnExactStableOfSpec : ChangeSpec := { name := "fnExactStableOf", fn := fun _ => fun
  | [d] => { results := [.lit (.bool true)], args := [d] }
  | _ => none }
def fnExactStableOfRow : OpenClaim := { program := "ytfilbknikbfjhaa", sum := "bff2f2524f37a505873c849fe0e0fac10f3946b2b2b384d5bfa08b9ed5df6595", func := "loop.example/strategiesthatspread/laws.FnExactStableOf", spec := "fnExactStableOf", unfollowed := true, recurses := true, apart := false }
def FnExactStableOfSaid : Prop := fnExactStableOfRow.holds Try.pinned (OpenSpec.ofChange fnExactStableOfSpec)

/-- ITS FALSE NEIGHBOUR: 'it returns false'. Refute it at one input. -/
def fnExactStableOfWrong : ChangeSpec := { name := "fnExactStableOf", fn := fun _ => fun
  | [d] => { results := [.lit (.bool false)], args := [d] }
  | _ => none }
def FnExactStableOfWrongFalsely : Prop := fnExactStableOfRow.holds Try.pinned (OpenSpec.ofChange fnExactStableOfWrong)

/-- 'laws.FnExactBarrierOf': WHATEVER THE INPUT: true; the input reads as it did. -/
def fnExactBarrierOfSpec : ChangeSpec := { name := "fnExactBarrierOf", fn := fun _ => fun
  | [d1, d2, d3] => { results := [.lit (.bool true)], args := [d1, d2, d3] }
  | _ => none }
def fnExactBarrierOfRow : OpenClaim := { program := "ytfilbknikbfjhaa", sum := "bff2f2524f37a505873c849fe0e0fac10f3946b2b2b384d5bfa08b9ed5df6595", func := "loop.example/strategiesthatspread/laws.FnExactBarrierOf", spec := "fnExactBarrierOf", unfollowed := true, recurses := true, apart := false }
def FnExactBarrierOfSaid : Prop := fnExactBarrierOfRow.holds Try.pinned (OpenSpec.ofChange fnExactBarrierOfSpec)

/-- ITS FALSE NEIGHBOUR: 'it returns false'. Refute it at one input. -/
def fnExactBarrierOfWrong : ChangeSpec := { name := "fnExactBarrierOf", fn := fun _ => fun
  | [d1, d2, d3] => { results := [.lit (.bool false)], args := [d1, d2, d3] }
  | _ => none }
def FnExactBarrierOfWrongFalsely : Prop := fnExactBarrierOfRow.holds Try.pinned (OpenSpec.ofChange fnExactBarrierOfWrong)

/-- 'laws.FnExactIsRest': WHATEVER THE INPUT: true; the input reads as it did. -/
def fnExactIsRestSpec : ChangeSpec := { name := "fnExactIsRest", fn := fun _ => fun
  | [d1, d2] => { results := [.lit (.bool true)], args := [d1, d2] }
  | _ => none }
def fnExactIsRestRow : OpenClaim := { program := "ytfilbknikbfjhaa", sum := "bff2f2524f37a505873c849fe0e0fac10f3946b2b2b384d5bfa08b9ed5df6595", func := "loop.example/strategiesthatspread/laws.FnExactIsRest", spec := "fnExactIsRest", unfollowed := true, recurses := true, apart := false }
def FnExactIsRestSaid : Prop := fnExactIsRestRow.holds Try.pinned (OpenSpec.ofChange fnExactIsRestSpec)

/-- ITS FALSE NEIGHBOUR: 'it returns false'. Refute it at one input. -/
def fnExactIsRestWrong : ChangeSpec := { name := "fnExactIsRest", fn := fun _ => fun
  | [d1, d2] => { results := [.lit (.bool false)], args := [d1, d2] }
  | _ => none }
def FnExactIsRestWrongFalsely : Prop := fnExactIsRestRow.holds Try.pinned (OpenSpec.ofChange fnExactIsRestWrong)

/-- 'laws.FnExactRestsOn': WHATEVER THE INPUT: true; the input reads as it did. -/
def fnExactRestsOnSpec : ChangeSpec := { name := "fnExactRestsOn", fn := fun _ => fun
  | [d] => { results := [.lit (.bool true)], args := [d] }
  | _ => none }
def fnExactRestsOnRow : OpenClaim := { program := "ytfilbknikbfjhaa", sum := "bff2f2524f37a505873c849fe0e0fac10f3946b2b2b384d5bfa08b9ed5df6595", func := "loop.example/strategiesthatspread/laws.FnExactRestsOn", spec := "fnExactRestsOn", unfollowed := true, recurses := true, apart := false }
def FnExactRestsOnSaid : Prop := fnExactRestsOnRow.holds Try.pinned (OpenSpec.ofChange fnExactRestsOnSpec)

/-- ITS FALSE NEIGHBOUR: 'it returns false'. Refute it at one input. -/
def fnExactRestsOnWrong : ChangeSpec := { name := "fnExactRestsOn", fn := fun _ => fun
  | [d] => { results := [.lit (.bool false)], args := [d] }
  | _ => none }
def FnExactRestsOnWrongFalsely : Prop := fnExactRestsOnRow.holds Try.pinned (OpenSpec.ofChange fnExactRestsOnWrong)

/- THE SECOND FORM. 'bulk': how many values and letters a reading holds, each counted each time it is reached (what is shared counts as often as it is met; a slice's spare places count too). A statement '..UptoSaid' is the law's where the arguments, and the package variables that the reading takes, are together of bulk at most 1048576: NARROWER than '..Said'. Prove '..Said' where nothing that the law and all that it calls make is longer than what came in: it says more and counts as full. Else prove '..UptoSaid'. A law counts once. -/
mutual
def uptoBulk {H : Type} : DataW H → Nat
  | .lit (.string bytes) => bytes.length + 1
  | .lit _ => 1
  | .nil => 1
  | .ptr d => uptoBulk d + 1
  | .slice elems spare => uptoBulkAll elems + uptoBulkAll spare + 1
  | .agg parts => uptoBulkAll parts + 1
  | .iface _ d => uptoBulk d + 1
  | .map entries => uptoBulkEntries entries + 1
  | .held _ => 1
def uptoBulkAll {H : Type} : List (DataW H) → Nat
  | [] => 0
  | d :: r => uptoBulk d + uptoBulkAll r
def uptoBulkEntries {H : Type} : List (Lit × DataW H) → Nat
  | [] => 0
  | x :: r => uptoBulkEntry x + uptoBulkEntries r
def uptoBulkEntry {H : Type} : Lit × DataW H → Nat
  | (.string bytes, d) => bytes.length + uptoBulk d + 1
  | (_, d) => uptoBulk d + 1
 end
def uptoSmall : (H : Type) → List (DataW H) → Bool := fun _ ds => decide (uptoBulkAll ds ≤ 1048576)
def OpenSpec.upto (s : _root_.Go.ChangeSpec) : _root_.Go.OpenSpec := { _root_.Go.OpenSpec.ofChange s with cond := some uptoSmall }

/-- 'laws.FnLeftOver', WHERE WHAT IT READS IS OF BULK AT MOST 1048576: true; the input reads as it did. -/
def fnLeftOverUptoRow : OpenClaim := { program := "ytfilbknikbfjhaa", sum := "bff2f2524f37a505873c849fe0e0fac10f3946b2b2b384d5bfa08b9ed5df6595", func := "loop.example/strategiesthatspread/laws.FnLeftOver", spec := "fnLeftOver", apart := false, narrowed := true }
def FnLeftOverUptoSaid : Prop := fnLeftOverUptoRow.holds Try.pinned (OpenSpec.upto fnLeftOverSpec)

/-- 'laws.FnNoRounds', WHERE WHAT IT READS IS OF BULK AT MOST 1048576: true; the input reads as it did. -/
def fnNoRoundsUptoRow : OpenClaim := { program := "ytfilbknikbfjhaa", sum := "bff2f2524f37a505873c849fe0e0fac10f3946b2b2b384d5bfa08b9ed5df6595", func := "loop.example/strategiesthatspread/laws.FnNoRounds", spec := "fnNoRounds", apart := false, narrowed := true }
def FnNoRoundsUptoSaid : Prop := fnNoRoundsUptoRow.holds Try.pinned (OpenSpec.upto fnNoRoundsSpec)

/-- 'laws.FnExactLeftOver', WHERE WHAT IT READS IS OF BULK AT MOST 1048576: true; the input reads as it did. -/
def fnExactLeftOverUptoRow : OpenClaim := { program := "ytfilbknikbfjhaa", sum := "bff2f2524f37a505873c849fe0e0fac10f3946b2b2b384d5bfa08b9ed5df6595", func := "loop.example/strategiesthatspread/laws.FnExactLeftOver", spec := "fnExactLeftOver", apart := false, narrowed := true }
def FnExactLeftOverUptoSaid : Prop := fnExactLeftOverUptoRow.holds Try.pinned (OpenSpec.upto fnExactLeftOverSpec)

/-- 'laws.FnExactPotentialOf', WHERE WHAT IT READS IS OF BULK AT MOST 1048576: true; the input reads as it did. -/
def fnExactPotentialOfUptoRow : OpenClaim := { program := "ytfilbknikbfjhaa", sum := "bff2f2524f37a505873c849fe0e0fac10f3946b2b2b384d5bfa08b9ed5df6595", func := "loop.example/strategiesthatspread/laws.FnExactPotentialOf", spec := "fnExactPotentialOf", apart := false, narrowed := true }
def FnExactPotentialOfUptoSaid : Prop := fnExactPotentialOfUptoRow.holds Try.pinned (OpenSpec.upto fnExactPotentialOfSpec)

/-- 'laws.FnBarrierOf', WHERE WHAT IT READS IS OF BULK AT MOST 1048576: true; the input reads as it did. -/
def fnBarrierOfUptoRow : OpenClaim := { program := "ytfilbknikbfjhaa", sum := "bff2f2524f37a505873c849fe0e0fac10f3946b2b2b384d5bfa08b9ed5df6595", func := "loop.example/strategiesthatspread/laws.FnBarrierOf", spec := "fnBarrierOf", unfollowed := true, recurses := true, apart := false, narrowed := true }
def FnBarrierOfUptoSaid : Prop := fnBarrierOfUptoRow.holds Try.pinned (OpenSpec.upto fnBarrierOfSpec)

/-- 'laws.FnStableIsRest', WHERE WHAT IT READS IS OF BULK AT MOST 1048576: true; the input reads as it did. -/
def fnStableIsRestUptoRow : OpenClaim := { program := "ytfilbknikbfjhaa", sum := "bff2f2524f37a505873c849fe0e0fac10f3946b2b2b384d5bfa08b9ed5df6595", func := "loop.example/strategiesthatspread/laws.FnStableIsRest", spec := "fnStableIsRest", unfollowed := true, recurses := true, apart := false, narrowed := true }
def FnStableIsRestUptoSaid : Prop := fnStableIsRestUptoRow.holds Try.pinned (OpenSpec.upto fnStableIsRestSpec)

/-- 'laws.FnExactValidSquare', WHERE WHAT IT READS IS OF BULK AT MOST 1048576: true; the input reads as it did. -/
def fnExactValidSquareUptoRow : OpenClaim := { program := "ytfilbknikbfjhaa", sum := "bff2f2524f37a505873c849fe0e0fac10f3946b2b2b384d5bfa08b9ed5df6595", func := "loop.example/strategiesthatspread/laws.FnExactValidSquare", spec := "fnExactValidSquare", apart := false, narrowed := true }
def FnExactValidSquareUptoSaid : Prop := fnExactValidSquareUptoRow.holds Try.pinned (OpenSpec.upto fnExactValidSquareSpec)

/-- 'laws.FnExactStableOf', WHERE WHAT IT READS IS OF BULK AT MOST 1048576: true; the input reads as it did. -/
def fnExactStableOfUptoRow : OpenClaim := { program := "ytfilbknikbfjhaa", sum := "bff2f2524f37a505873c849fe0e0fac10f3946b2b2b384d5bfa08b9ed5df6595", func := "loop.example/strategiesthatspread/laws.FnExactStableOf", spec := "fnExactStableOf", unfollowed := true, recurses := true, apart := false, narrowed := true }
def FnExactStableOfUptoSaid : Prop := fnExactStableOfUptoRow.holds Try.pinned (OpenSpec.upto fnExactStableOfSpec)

/-- 'laws.FnExactBarrierOf', WHERE WHAT IT READS IS OF BULK AT MOST 1048576: true; the input reads as it did. -/
def fnExactBarrierOfUptoRow : OpenClaim := { program := "ytfilbknikbfjhaa", sum := "bff2f2524f37a505873c849fe0e0fac10f3946b2b2b384d5bfa08b9ed5df6595", func := "loop.example/strategiesthatspread/laws.FnExactBarrierOf", spec := "fnExactBarrierOf", unfollowed := true, recurses := true, apart := false, narrowed := true }
def FnExactBarrierOfUptoSaid : Prop := fnExactBarrierOfUptoRow.holds Try.pinned (OpenSpec.upto fnExactBarrierOfSpec)

/-- 'laws.FnExactIsRest', WHERE WHAT IT READS IS OF BULK AT MOST 1048576: true; the input reads as it did. -/
def fnExactIsRestUptoRow : OpenClaim := { program := "ytfilbknikbfjhaa", sum := "bff2f2524f37a505873c849fe0e0fac10f3946b2b2b384d5bfa08b9ed5df6595", func := "loop.example/strategiesthatspread/laws.FnExactIsRest", spec := "fnExactIsRest", unfollowed := true, recurses := true, apart := false, narrowed := true }
def FnExactIsRestUptoSaid : Prop := fnExactIsRestUptoRow.holds Try.pinned (OpenSpec.upto fnExactIsRestSpec)

/-- 'laws.FnExactRestsOn', WHERE WHAT IT READS IS OF BULK AT MOST 1048576: true; the input reads as it did. -/
def fnExactRestsOnUptoRow : OpenClaim := { program := "ytfilbknikbfjhaa", sum := "bff2f2524f37a505873c849fe0e0fac10f3946b2b2b384d5bfa08b9ed5df6595", func := "loop.example/strategiesthatspread/laws.FnExactRestsOn", spec := "fnExactRestsOn", unfollowed := true, recurses := true, apart := false, narrowed := true }
def FnExactRestsOnUptoSaid : Prop := fnExactRestsOnUptoRow.holds Try.pinned (OpenSpec.upto fnExactRestsOnSpec)

end Rows
end Go.Proofs.Ytfilbknikbfjhaa
