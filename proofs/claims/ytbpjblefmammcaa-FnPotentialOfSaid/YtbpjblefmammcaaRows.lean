/-
  No cell of these rows narrows 'for every input' (looked for: loops, veiled, ifaces, maps, wideKeys, modest, calm, conditions, laid).
  DERIVED. THE GIVEN ROWS OF THIS SEAT. 7 by the template 'for every input the law returns true; each argument reads behind the call as it read before'; 0 by the template 'total and deterministic' (their statements: YtbpjblefmammcaaTotals.lean).
  GIVEN WITH THE SEED: the statements are not yours to turn. If you find one false, say at which input.
  Laid BY PROGRAM, IN A SANDBOX (cutbox-rows.mjs): the forced cells as the released guide's own fill.sh prints them over the translation db9594778a0f72c2… (all of the seat's roots in one cut). By AI agents, Wed Nov 11 2026. No macro, syntax, notation, axiom, sorry.
-/
import Derived.Test.YtbpjblefmammcaaChecked
import GoSem.Claim
import GoSem.ClaimJoined
import GoSem.ClaimMapViews
import Derived.JoinedTies
import Derived.KernelRfl
namespace Go.Proofs.Ytbpjblefmammcaa
/- THE CELL 'sum', in the pinned program and in every row, IS THE sha256 OF THE DUMP (.gsa) THAT YtbpjblefmammcaaProg.lean LOADS. Nothing in Lean hashes anything: it is a label: what it is worth is what the hold of that sum in a sandbox is worth. -/
noncomputable def Try.pinned : Pinned := { name := "ytbpjblefmammcaa", sum := "db9594778a0f72c268173284538c1e32b7b4195ca14bca9dfdf643e0550320fc", checked := Try.checked }
namespace Rows
def none {H : Type} : Left H := { results := [], args := [] }

/-- 'laws.FnExactLearnCounts': WHATEVER THE INPUT: true; the input reads as it did. -/
def fnExactLearnCountsSpec : ChangeSpec := { name := "fnExactLearnCounts", fn := fun _ => fun
  | [d1, d2] => { results := [.lit (.bool true)], args := [d1, d2] }
  | _ => none }
def fnExactLearnCountsRow : OpenClaim := { program := "ytbpjblefmammcaa", sum := "db9594778a0f72c268173284538c1e32b7b4195ca14bca9dfdf643e0550320fc", func := "loop.example/strategiesthatspread/laws.FnExactLearnCounts", spec := "fnExactLearnCounts", leaving := true, apart := false }
def FnExactLearnCountsSaid : Prop := fnExactLearnCountsRow.holds Try.pinned (OpenSpec.ofChange fnExactLearnCountsSpec)

/-- ITS FALSE NEIGHBOUR: 'it returns false'. Refute it at one input. -/
def fnExactLearnCountsWrong : ChangeSpec := { name := "fnExactLearnCounts", fn := fun _ => fun
  | [d1, d2] => { results := [.lit (.bool false)], args := [d1, d2] }
  | _ => none }
def FnExactLearnCountsWrongFalsely : Prop := fnExactLearnCountsRow.holds Try.pinned (OpenSpec.ofChange fnExactLearnCountsWrong)

/-- 'laws.FnLearnCounts': WHATEVER THE INPUT: true; the input reads as it did. -/
def fnLearnCountsSpec : ChangeSpec := { name := "fnLearnCounts", fn := fun _ => fun
  | [d] => { results := [.lit (.bool true)], args := [d] }
  | _ => none }
def fnLearnCountsRow : OpenClaim := { program := "ytbpjblefmammcaa", sum := "db9594778a0f72c268173284538c1e32b7b4195ca14bca9dfdf643e0550320fc", func := "loop.example/strategiesthatspread/laws.FnLearnCounts", spec := "fnLearnCounts", leaving := true, apart := false }
def FnLearnCountsSaid : Prop := fnLearnCountsRow.holds Try.pinned (OpenSpec.ofChange fnLearnCountsSpec)

/-- ITS FALSE NEIGHBOUR: 'it returns false'. Refute it at one input. -/
def fnLearnCountsWrong : ChangeSpec := { name := "fnLearnCounts", fn := fun _ => fun
  | [d] => { results := [.lit (.bool false)], args := [d] }
  | _ => none }
def FnLearnCountsWrongFalsely : Prop := fnLearnCountsRow.holds Try.pinned (OpenSpec.ofChange fnLearnCountsWrong)

/-- 'laws.FnLearningIsBetween': WHATEVER THE INPUT: true; the input reads as it did. -/
def fnLearningIsBetweenSpec : ChangeSpec := { name := "fnLearningIsBetween", fn := fun _ => fun
  | [d] => { results := [.lit (.bool true)], args := [d] }
  | _ => none }
def fnLearningIsBetweenRow : OpenClaim := { program := "ytbpjblefmammcaa", sum := "db9594778a0f72c268173284538c1e32b7b4195ca14bca9dfdf643e0550320fc", func := "loop.example/strategiesthatspread/laws.FnLearningIsBetween", spec := "fnLearningIsBetween", recurses := true, leaving := true, apart := false }
def FnLearningIsBetweenSaid : Prop := fnLearningIsBetweenRow.holds Try.pinned (OpenSpec.ofChange fnLearningIsBetweenSpec)

/-- ITS FALSE NEIGHBOUR: 'it returns false'. Refute it at one input. -/
def fnLearningIsBetweenWrong : ChangeSpec := { name := "fnLearningIsBetween", fn := fun _ => fun
  | [d] => { results := [.lit (.bool false)], args := [d] }
  | _ => none }
def FnLearningIsBetweenWrongFalsely : Prop := fnLearningIsBetweenRow.holds Try.pinned (OpenSpec.ofChange fnLearningIsBetweenWrong)

/-- 'laws.FnStrongRestsAreLearned': WHATEVER THE INPUT: true; the input reads as it did. -/
def fnStrongRestsAreLearnedSpec : ChangeSpec := { name := "fnStrongRestsAreLearned", fn := fun _ => fun
  | [d] => { results := [.lit (.bool true)], args := [d] }
  | _ => none }
def fnStrongRestsAreLearnedRow : OpenClaim := { program := "ytbpjblefmammcaa", sum := "db9594778a0f72c268173284538c1e32b7b4195ca14bca9dfdf643e0550320fc", func := "loop.example/strategiesthatspread/laws.FnStrongRestsAreLearned", spec := "fnStrongRestsAreLearned", leaving := true, apart := false }
def FnStrongRestsAreLearnedSaid : Prop := fnStrongRestsAreLearnedRow.holds Try.pinned (OpenSpec.ofChange fnStrongRestsAreLearnedSpec)

/-- ITS FALSE NEIGHBOUR: 'it returns false'. Refute it at one input. -/
def fnStrongRestsAreLearnedWrong : ChangeSpec := { name := "fnStrongRestsAreLearned", fn := fun _ => fun
  | [d] => { results := [.lit (.bool false)], args := [d] }
  | _ => none }
def FnStrongRestsAreLearnedWrongFalsely : Prop := fnStrongRestsAreLearnedRow.holds Try.pinned (OpenSpec.ofChange fnStrongRestsAreLearnedWrong)

/-- 'laws.FnExactPotentialOf': WHATEVER THE INPUT: true; the input reads as it did. -/
def fnExactPotentialOfSpec : ChangeSpec := { name := "fnExactPotentialOf", fn := fun _ => fun
  | [d] => { results := [.lit (.bool true)], args := [d] }
  | _ => none }
def fnExactPotentialOfRow : OpenClaim := { program := "ytbpjblefmammcaa", sum := "db9594778a0f72c268173284538c1e32b7b4195ca14bca9dfdf643e0550320fc", func := "loop.example/strategiesthatspread/laws.FnExactPotentialOf", spec := "fnExactPotentialOf", apart := false }
def FnExactPotentialOfSaid : Prop := fnExactPotentialOfRow.holds Try.pinned (OpenSpec.ofChange fnExactPotentialOfSpec)

/-- ITS FALSE NEIGHBOUR: 'it returns false'. Refute it at one input. -/
def fnExactPotentialOfWrong : ChangeSpec := { name := "fnExactPotentialOf", fn := fun _ => fun
  | [d] => { results := [.lit (.bool false)], args := [d] }
  | _ => none }
def FnExactPotentialOfWrongFalsely : Prop := fnExactPotentialOfRow.holds Try.pinned (OpenSpec.ofChange fnExactPotentialOfWrong)

/-- 'laws.FnPotentialOf': WHATEVER THE INPUT: true; the input reads as it did. -/
def fnPotentialOfSpec : ChangeSpec := { name := "fnPotentialOf", fn := fun _ => fun
  | [d] => { results := [.lit (.bool true)], args := [d] }
  | _ => none }
def fnPotentialOfRow : OpenClaim := { program := "ytbpjblefmammcaa", sum := "db9594778a0f72c268173284538c1e32b7b4195ca14bca9dfdf643e0550320fc", func := "loop.example/strategiesthatspread/laws.FnPotentialOf", spec := "fnPotentialOf", apart := false }
def FnPotentialOfSaid : Prop := fnPotentialOfRow.holds Try.pinned (OpenSpec.ofChange fnPotentialOfSpec)

/-- ITS FALSE NEIGHBOUR: 'it returns false'. Refute it at one input. -/
def fnPotentialOfWrong : ChangeSpec := { name := "fnPotentialOf", fn := fun _ => fun
  | [d] => { results := [.lit (.bool false)], args := [d] }
  | _ => none }
def FnPotentialOfWrongFalsely : Prop := fnPotentialOfRow.holds Try.pinned (OpenSpec.ofChange fnPotentialOfWrong)

/-- 'laws.FnEvenHasPotential': WHATEVER THE INPUT: true; the input reads as it did. -/
def fnEvenHasPotentialSpec : ChangeSpec := { name := "fnEvenHasPotential", fn := fun _ => fun
  | [d] => { results := [.lit (.bool true)], args := [d] }
  | _ => none }
def fnEvenHasPotentialRow : OpenClaim := { program := "ytbpjblefmammcaa", sum := "db9594778a0f72c268173284538c1e32b7b4195ca14bca9dfdf643e0550320fc", func := "loop.example/strategiesthatspread/laws.FnEvenHasPotential", spec := "fnEvenHasPotential", apart := false }
def FnEvenHasPotentialSaid : Prop := fnEvenHasPotentialRow.holds Try.pinned (OpenSpec.ofChange fnEvenHasPotentialSpec)

/-- ITS FALSE NEIGHBOUR: 'it returns false'. Refute it at one input. -/
def fnEvenHasPotentialWrong : ChangeSpec := { name := "fnEvenHasPotential", fn := fun _ => fun
  | [d] => { results := [.lit (.bool false)], args := [d] }
  | _ => none }
def FnEvenHasPotentialWrongFalsely : Prop := fnEvenHasPotentialRow.holds Try.pinned (OpenSpec.ofChange fnEvenHasPotentialWrong)

/- THE SECOND FORM. 'bulk': how many values and letters a reading holds, each counted each time it is reached (what is shared counts as often as it is met; a slice's spare places count too). A statement '..UptoSaid' is the law's where the arguments, and the package variables that the reading takes, are together of bulk at most 1048576: NARROWER than '..Said'. Prove '..Said' where nothing that the law and all that it calls make is longer than what came in: it says more and counts as full. Else prove '..UptoSaid'. A law counts once. -/
mutual
def uptoBulk {H : Type} : DataW H → Nat
  | .lit (.string bytes) => bytes.length + 1
  | .lit _ => 1
  | .nil => 1
  | .ptr d => uptoBulk d + 1
  | .slice elems spare => uptoBulkAll elems + uptoBulkAll spare + 1
  | .agg parts => uptoBulkAll parts + 1
  | .iface _ d => uptoBulk d + 1
  | .map entries => uptoBulkEntries entries + 1
  | .held _ => 1
def uptoBulkAll {H : Type} : List (DataW H) → Nat
  | [] => 0
  | d :: r => uptoBulk d + uptoBulkAll r
def uptoBulkEntries {H : Type} : List (Lit × DataW H) → Nat
  | [] => 0
  | x :: r => uptoBulkEntry x + uptoBulkEntries r
def uptoBulkEntry {H : Type} : Lit × DataW H → Nat
  | (.string bytes, d) => bytes.length + uptoBulk d + 1
  | (_, d) => uptoBulk d + 1
 end
def uptoSmall : (H : Type) → List (DataW H) → Bool := fun _ ds => decide (uptoBulkAll ds ≤ 1048576)
def OpenSpec.upto (s : _root_.Go.ChangeSpec) : _root_.Go.OpenSpec := { _root_.Go.OpenSpec.ofChange s with cond := some uptoSmall }

/-- 'laws.FnExactLearnCounts', WHERE WHAT IT READS IS OF BULK AT MOST 1048576: true; the input reads as it did. -/
def fnExactLearnCountsUptoRow : OpenClaim := { program := "ytbpjblefmammcaa", sum := "db9594778a0f72c268173284538c1e32b7b4195ca14bca9dfdf643e0550320fc", func := "loop.example/strategiesthatspread/laws.FnExactLearnCounts", spec := "fnExactLearnCounts", leaving := true, apart := false, narrowed := true }
def FnExactLearnCountsUptoSaid : Prop := fnExactLearnCountsUptoRow.holds Try.pinned (OpenSpec.upto fnExactLearnCountsSpec)

/-- 'laws.FnLearnCounts', WHERE WHAT IT READS IS OF BULK AT MOST 1048576: true; the input reads as it did. -/
def fnLearnCountsUptoRow : OpenClaim := { program := "ytbpjblefmammcaa", sum := "db9594778a0f72c268173284538c1e32b7b4195ca14bca9dfdf643e0550320fc", func := "loop.example/strategiesthatspread/laws.FnLearnCounts", spec := "fnLearnCounts", leaving := true, apart := false, narrowed := true }
def FnLearnCountsUptoSaid : Prop := fnLearnCountsUptoRow.holds Try.pinned (OpenSpec.upto fnLearnCountsSpec)

/-- 'laws.FnLearningIsBetween', WHERE WHAT IT READS IS OF BULK AT MOST 1048576: true; the input reads as it did. -/
def fnLearningIsBetweenUptoRow : OpenClaim := { program := "ytbpjblefmammcaa", sum := "db9594778a0f72c268173284538c1e32b7b4195ca14bca9dfdf643e0550320fc", func := "loop.example/strategiesthatspread/laws.FnLearningIsBetween", spec := "fnLearningIsBetween", recurses := true, leaving := true, apart := false, narrowed := true }
def FnLearningIsBetweenUptoSaid : Prop := fnLearningIsBetweenUptoRow.holds Try.pinned (OpenSpec.upto fnLearningIsBetweenSpec)

/-- 'laws.FnStrongRestsAreLearned', WHERE WHAT IT READS IS OF BULK AT MOST 1048576: true; the input reads as it did. -/
def fnStrongRestsAreLearnedUptoRow : OpenClaim := { program := "ytbpjblefmammcaa", sum := "db9594778a0f72c268173284538c1e32b7b4195ca14bca9dfdf643e0550320fc", func := "loop.example/strategiesthatspread/laws.FnStrongRestsAreLearned", spec := "fnStrongRestsAreLearned", leaving := true, apart := false, narrowed := true }
def FnStrongRestsAreLearnedUptoSaid : Prop := fnStrongRestsAreLearnedUptoRow.holds Try.pinned (OpenSpec.upto fnStrongRestsAreLearnedSpec)

/-- 'laws.FnExactPotentialOf', WHERE WHAT IT READS IS OF BULK AT MOST 1048576: true; the input reads as it did. -/
def fnExactPotentialOfUptoRow : OpenClaim := { program := "ytbpjblefmammcaa", sum := "db9594778a0f72c268173284538c1e32b7b4195ca14bca9dfdf643e0550320fc", func := "loop.example/strategiesthatspread/laws.FnExactPotentialOf", spec := "fnExactPotentialOf", apart := false, narrowed := true }
def FnExactPotentialOfUptoSaid : Prop := fnExactPotentialOfUptoRow.holds Try.pinned (OpenSpec.upto fnExactPotentialOfSpec)

/-- 'laws.FnPotentialOf', WHERE WHAT IT READS IS OF BULK AT MOST 1048576: true; the input reads as it did. -/
def fnPotentialOfUptoRow : OpenClaim := { program := "ytbpjblefmammcaa", sum := "db9594778a0f72c268173284538c1e32b7b4195ca14bca9dfdf643e0550320fc", func := "loop.example/strategiesthatspread/laws.FnPotentialOf", spec := "fnPotentialOf", apart := false, narrowed := true }
def FnPotentialOfUptoSaid : Prop := fnPotentialOfUptoRow.holds Try.pinned (OpenSpec.upto fnPotentialOfSpec)

/-- 'laws.FnEvenHasPotential', WHERE WHAT IT READS IS OF BULK AT MOST 1048576: true; the input reads as it did. -/
def fnEvenHasPotentialUptoRow : OpenClaim := { program := "ytbpjblefmammcaa", sum := "db9594778a0f72c268173284538c1e32b7b4195ca14bca9dfdf643e0550320fc", func := "loop.example/strategiesthatspread/laws.FnEvenHasPotential", spec := "fnEvenHasPotential", apart := false, narrowed := true }
def FnEvenHasPotentialUptoSaid : Prop := fnEvenHasPotentialUptoRow.holds Try.pinned (OpenSpec.upto fnEvenHasPotentialSpec)

end Rows
end Go.Proofs.Ytbpjblefmammcaa
