/-
  No cell of these rows narrows 'for every input' (looked for: loops, veiled, ifaces, maps, wideKeys, modest, calm, conditions, laid).
  DERIVED. THE GIVEN ROWS OF THIS SEAT. 5 by the template 'for every input the law returns true; each argument reads behind the call as it read before'; 0 by the template 'total and deterministic' (their statements: YtelalmimjdnlpaaTotals.lean).
  GIVEN WITH THE SEED: the statements are not yours to turn. If you find one false, say at which input.
  Laid BY PROGRAM, IN A SANDBOX (cutbox-rows.mjs): the forced cells as the released guide's own fill.sh prints them over the translation 256412f6d55e16f8… (all of the seat's roots in one cut). By AI agents, Wed Nov 11 2026. No macro, syntax, notation, axiom, sorry.
-/
import Derived.Test.YtelalmimjdnlpaaChecked
import GoSem.Claim
import GoSem.ClaimJoined
import GoSem.ClaimMapViews
import Derived.JoinedTies
import Derived.KernelRfl
namespace Go.Proofs.Ytelalmimjdnlpaa
/- THE CELL 'sum', in the pinned program and in every row, IS THE sha256 OF THE DUMP (.gsa) THAT YtelalmimjdnlpaaProg.lean LOADS. Nothing in Lean hashes anything: it is a label: what it is worth is what the hold of that sum in a sandbox is worth. -/
noncomputable def Try.pinned : Pinned := { name := "ytelalmimjdnlpaa", sum := "256412f6d55e16f8b883b5f24d55d3097a08c6a932aedbd44fdf261bdd6a3fe8", checked := Try.checked }
namespace Rows
def none {H : Type} : Left H := { results := [], args := [] }

/-- 'laws.FnPureRests': WHATEVER THE INPUT: true; the input reads as it did. -/
def fnPureRestsSpec : ChangeSpec := { name := "fnPureRests", fn := fun _ => fun
  | [d] => { results := [.lit (.bool true)], args := [d] }
  | _ => none }
def fnPureRestsRow : OpenClaim := { program := "ytelalmimjdnlpaa", sum := "256412f6d55e16f8b883b5f24d55d3097a08c6a932aedbd44fdf261bdd6a3fe8", func := "loop.example/strategiesthatspread/laws.FnPureRests", spec := "fnPureRests", apart := false }
def FnPureRestsSaid : Prop := fnPureRestsRow.holds Try.pinned (OpenSpec.ofChange fnPureRestsSpec)

/-- ITS FALSE NEIGHBOUR: 'it returns false'. Refute it at one input. -/
def fnPureRestsWrong : ChangeSpec := { name := "fnPureRests", fn := fun _ => fun
  | [d] => { results := [.lit (.bool false)], args := [d] }
  | _ => none }
def FnPureRestsWrongFalsely : Prop := fnPureRestsRow.holds Try.pinned (OpenSpec.ofChange fnPureRestsWrong)

/-- 'laws.FnLeftOver': WHATEVER THE INPUT: true; the input reads as it did. -/
def fnLeftOverSpec : ChangeSpec := { name := "fnLeftOver", fn := fun _ => fun
  | [d] => { results := [.lit (.bool true)], args := [d] }
  | _ => none }
def fnLeftOverRow : OpenClaim := { program := "ytelalmimjdnlpaa", sum := "256412f6d55e16f8b883b5f24d55d3097a08c6a932aedbd44fdf261bdd6a3fe8", func := "loop.example/strategiesthatspread/laws.FnLeftOver", spec := "fnLeftOver", apart := false }
def FnLeftOverSaid : Prop := fnLeftOverRow.holds Try.pinned (OpenSpec.ofChange fnLeftOverSpec)

/-- ITS FALSE NEIGHBOUR: 'it returns false'. Refute it at one input. -/
def fnLeftOverWrong : ChangeSpec := { name := "fnLeftOver", fn := fun _ => fun
  | [d] => { results := [.lit (.bool false)], args := [d] }
  | _ => none }
def FnLeftOverWrongFalsely : Prop := fnLeftOverRow.holds Try.pinned (OpenSpec.ofChange fnLeftOverWrong)

/-- 'laws.FnExactPotentialOf': WHATEVER THE INPUT: true; the input reads as it did. -/
def fnExactPotentialOfSpec : ChangeSpec := { name := "fnExactPotentialOf", fn := fun _ => fun
  | [d] => { results := [.lit (.bool true)], args := [d] }
  | _ => none }
def fnExactPotentialOfRow : OpenClaim := { program := "ytelalmimjdnlpaa", sum := "256412f6d55e16f8b883b5f24d55d3097a08c6a932aedbd44fdf261bdd6a3fe8", func := "loop.example/strategiesthatspread/laws.FnExactPotentialOf", spec := "fnExactPotentialOf", apart := false }
def FnExactPotentialOfSaid : Prop := fnExactPotentialOfRow.holds Try.pinned (OpenSpec.ofChange fnExactPotentialOfSpec)

/-- ITS FALSE NEIGHBOUR: 'it returns false'. Refute it at one input. -/
def fnExactPotentialOfWrong : ChangeSpec := { name := "fnExactPotentialOf", fn := fun _ => fun
  | [d] => { results := [.lit (.bool false)], args := [d] }
  | _ => none }
def FnExactPotentialOfWrongFalsely : Prop := fnExactPotentialOfRow.holds Try.pinned (OpenSpec.ofChange fnExactPotentialOfWrong)

/-- 'laws.FnEvenHasPotential': WHATEVER THE INPUT: true; the input reads as it did. -/
def fnEvenHasPotentialSpec : ChangeSpec := { name := "fnEvenHasPotential", fn := fun _ => fun
  | [d] => { results := [.lit (.bool true)], args := [d] }
  | _ => none }
def fnEvenHasPotentialRow : OpenClaim := { program := "ytelalmimjdnlpaa", sum := "256412f6d55e16f8b883b5f24d55d3097a08c6a932aedbd44fdf261bdd6a3fe8", func := "loop.example/strategiesthatspread/laws.FnEvenHasPotential", spec := "fnEvenHasPotential", apart := false }
def FnEvenHasPotentialSaid : Prop := fnEvenHasPotentialRow.holds Try.pinned (OpenSpec.ofChange fnEvenHasPotentialSpec)

/-- ITS FALSE NEIGHBOUR: 'it returns false'. Refute it at one input. -/
def fnEvenHasPotentialWrong : ChangeSpec := { name := "fnEvenHasPotential", fn := fun _ => fun
  | [d] => { results := [.lit (.bool false)], args := [d] }
  | _ => none }
def FnEvenHasPotentialWrongFalsely : Prop := fnEvenHasPotentialRow.holds Try.pinned (OpenSpec.ofChange fnEvenHasPotentialWrong)

/-- 'laws.FnPotentialOf': WHATEVER THE INPUT: true; the input reads as it did. -/
def fnPotentialOfSpec : ChangeSpec := { name := "fnPotentialOf", fn := fun _ => fun
  | [d] => { results := [.lit (.bool true)], args := [d] }
  | _ => none }
def fnPotentialOfRow : OpenClaim := { program := "ytelalmimjdnlpaa", sum := "256412f6d55e16f8b883b5f24d55d3097a08c6a932aedbd44fdf261bdd6a3fe8", func := "loop.example/strategiesthatspread/laws.FnPotentialOf", spec := "fnPotentialOf", apart := false }
def FnPotentialOfSaid : Prop := fnPotentialOfRow.holds Try.pinned (OpenSpec.ofChange fnPotentialOfSpec)

/-- ITS FALSE NEIGHBOUR: 'it returns false'. Refute it at one input. -/
def fnPotentialOfWrong : ChangeSpec := { name := "fnPotentialOf", fn := fun _ => fun
  | [d] => { results := [.lit (.bool false)], args := [d] }
  | _ => none }
def FnPotentialOfWrongFalsely : Prop := fnPotentialOfRow.holds Try.pinned (OpenSpec.ofChange fnPotentialOfWrong)

/- THE SECOND FORM. 'bulk': how many values and letters a reading holds, each counted each time it is reached (what is shared counts as often as it is met; a slice's spare places count too). A statement '..UptoSaid' is the law's where the arguments, and the package variables that the reading takes, are together of bulk at most 1048576: NARROWER than '..Said'. Prove '..Said' where nothing that the law and all that it calls make is longer than what came in: it says more and counts as full. Else prove '..UptoSaid'. A law counts once. -/
mutual
def uptoBulk {H : Type} : DataW H → Nat
  | .lit (.string bytes) => bytes.length + 1
  | .lit _ => 1
  | .nil => 1
  | .ptr d => uptoBulk d + 1
  | .slice elems spare => uptoBulkAll elems + uptoBulkAll spare + 1
  | .agg parts => uptoBulkAll parts + 1
  | .iface _ d => uptoBulk d + 1
  | .map entries => uptoBulkEntries entries + 1
  | .held _ => 1
def uptoBulkAll {H : Type} : List (DataW H) → Nat
  | [] => 0
  | d :: r => uptoBulk d + uptoBulkAll r
def uptoBulkEntries {H : Type} : List (Lit × DataW H) → Nat
  | [] => 0
  | x :: r => uptoBulkEntry x + uptoBulkEntries r
def uptoBulkEntry {H : Type} : Lit × DataW H → Nat
  | (.string bytes, d) => bytes.length + uptoBulk d + 1
  | (_, d) => uptoBulk d + 1
 end
def uptoSmall : (H : Type) → List (DataW H) → Bool := fun _ ds => decide (uptoBulkAll ds ≤ 1048576)
def OpenSpec.upto (s : _root_.Go.ChangeSpec) : _root_.Go.OpenSpec := { _root_.Go.OpenSpec.ofChange s with cond := some uptoSmall }

/-- 'laws.FnPureRests', WHERE WHAT IT READS IS OF BULK AT MOST 1048576: true; the input reads as it did. -/
def fnPureRestsUptoRow : OpenClaim := { program := "ytelalmimjdnlpaa", sum := "256412f6d55e16f8b883b5f24d55d3097a08c6a932aedbd44fdf261bdd6a3fe8", func := "loop.example/strategiesthatspread/laws.FnPureRests", spec := "fnPureRests", apart := false, narrowed := true }
def FnPureRestsUptoSaid : Prop := fnPureRestsUptoRow.holds Try.pinned (OpenSpec.upto fnPureRestsSpec)

/-- 'laws.FnLeftOver', WHERE WHAT IT READS IS OF BULK AT MOST 1048576: true; the input reads as it did. -/
def fnLeftOverUptoRow : OpenClaim := { program := "ytelalmimjdnlpaa", sum := "256412f6d55e16f8b883b5f24d55d3097a08c6a932aedbd44fdf261bdd6a3fe8", func := "loop.example/strategiesthatspread/laws.FnLeftOver", spec := "fnLeftOver", apart := false, narrowed := true }
def FnLeftOverUptoSaid : Prop := fnLeftOverUptoRow.holds Try.pinned (OpenSpec.upto fnLeftOverSpec)

/-- 'laws.FnExactPotentialOf', WHERE WHAT IT READS IS OF BULK AT MOST 1048576: true; the input reads as it did. -/
def fnExactPotentialOfUptoRow : OpenClaim := { program := "ytelalmimjdnlpaa", sum := "256412f6d55e16f8b883b5f24d55d3097a08c6a932aedbd44fdf261bdd6a3fe8", func := "loop.example/strategiesthatspread/laws.FnExactPotentialOf", spec := "fnExactPotentialOf", apart := false, narrowed := true }
def FnExactPotentialOfUptoSaid : Prop := fnExactPotentialOfUptoRow.holds Try.pinned (OpenSpec.upto fnExactPotentialOfSpec)

/-- 'laws.FnEvenHasPotential', WHERE WHAT IT READS IS OF BULK AT MOST 1048576: true; the input reads as it did. -/
def fnEvenHasPotentialUptoRow : OpenClaim := { program := "ytelalmimjdnlpaa", sum := "256412f6d55e16f8b883b5f24d55d3097a08c6a932aedbd44fdf261bdd6a3fe8", func := "loop.example/strategiesthatspread/laws.FnEvenHasPotential", spec := "fnEvenHasPotential", apart := false, narrowed := true }
def FnEvenHasPotentialUptoSaid : Prop := fnEvenHasPotentialUptoRow.holds Try.pinned (OpenSpec.upto fnEvenHasPotentialSpec)

/-- 'laws.FnPotentialOf', WHERE WHAT IT READS IS OF BULK AT MOST 1048576: true; the input reads as it did. -/
def fnPotentialOfUptoRow : OpenClaim := { program := "ytelalmimjdnlpaa", sum := "256412f6d55e16f8b883b5f24d55d3097a08c6a932aedbd44fdf261bdd6a3fe8", func := "loop.example/strategiesthatspread/laws.FnPotentialOf", spec := "fnPotentialOf", apart := false, narrowed := true }
def FnPotentialOfUptoSaid : Prop := fnPotentialOfUptoRow.holds Try.pinned (OpenSpec.upto fnPotentialOfSpec)

end Rows
end Go.Proofs.Ytelalmimjdnlpaa
