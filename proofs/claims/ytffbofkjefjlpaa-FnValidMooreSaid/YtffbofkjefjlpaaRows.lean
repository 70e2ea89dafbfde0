/-
  No cell of these rows narrows 'for every input' (looked for: loops, veiled, ifaces, maps, wideKeys, modest, calm, conditions, laid).
  DERIVED. THE GIVEN ROWS OF THIS SEAT. 10 by the template 'for every input the law returns true; each argument reads behind the call as it read before'; 0 by the template 'total and deterministic' (their statements: YtffbofkjefjlpaaTotals.lean).
  GIVEN WITH THE SEED: the statements are not yours to turn. If you find one false, say at which input.
  Laid BY PROGRAM, IN A SANDBOX (cutbox-rows.mjs): the forced cells as the released guide's own fill.sh prints them over the translation ae24c7aeed3467fc… (all of the seat's roots in one cut). By AI agents, Wed Nov 11 2026. No macro, syntax, notation, axiom, sorry.
-/
import Derived.Test.YtffbofkjefjlpaaChecked
import GoSem.Claim
import GoSem.ClaimJoined
import GoSem.ClaimMapViews
import Derived.JoinedTies
import Derived.KernelRfl
namespace Go.Proofs.Ytffbofkjefjlpaa
/- THE CELL 'sum', in the pinned program and in every row, IS THE sha256 OF THE DUMP (.gsa) THAT YtffbofkjefjlpaaProg.lean LOADS. Nothing in Lean hashes anything: it is a label: what it is worth is what the hold of that sum in a sandbox is worth. -/
noncomputable def Try.pinned : Pinned := { name := "ytffbofkjefjlpaa", sum := "ae24c7aeed3467fc6c6b039736072d5662deada1a77a015bb34e61f1ac76d9ca", checked := Try.checked }
namespace Rows
def none {H : Type} : Left H := { results := [], args := [] }

/-- 'laws.FnExactValidMoore': WHATEVER THE INPUT: true; the input reads as it did. -/
def fnExactValidMooreSpec : ChangeSpec := { name := "fnExactValidMoore", fn := fun _ => fun
  | [d] => { results := [.lit (.bool true)], args := [d] }
  | _ => none }
def fnExactValidMooreRow : OpenClaim := { program := "ytffbofkjefjlpaa", sum := "ae24c7aeed3467fc6c6b039736072d5662deada1a77a015bb34e61f1ac76d9ca", func := "loop.example/strategiesthatspread/laws.FnExactValidMoore", spec := "fnExactValidMoore", apart := false }
def FnExactValidMooreSaid : Prop := fnExactValidMooreRow.holds Try.pinned (OpenSpec.ofChange fnExactValidMooreSpec)

/-- ITS FALSE NEIGHBOUR: 'it returns false'. Refute it at one input. -/
def fnExactValidMooreWrong : ChangeSpec := { name := "fnExactValidMoore", fn := fun _ => fun
  | [d] => { results := [.lit (.bool false)], args := [d] }
  | _ => none }
def FnExactValidMooreWrongFalsely : Prop := fnExactValidMooreRow.holds Try.pinned (OpenSpec.ofChange fnExactValidMooreWrong)

/-- 'laws.FnExactMeetOf': WHATEVER THE INPUT: true; the input reads as it did. -/
def fnExactMeetOfSpec : ChangeSpec := { name := "fnExactMeetOf", fn := fun _ => fun
  | [d1, d2] => { results := [.lit (.bool true)], args := [d1, d2] }
  | _ => none }
def fnExactMeetOfRow : OpenClaim := { program := "ytffbofkjefjlpaa", sum := "ae24c7aeed3467fc6c6b039736072d5662deada1a77a015bb34e61f1ac76d9ca", func := "loop.example/strategiesthatspread/laws.FnExactMeetOf", spec := "fnExactMeetOf", unfollowed := true, recurses := true, apart := false }
def FnExactMeetOfSaid : Prop := fnExactMeetOfRow.holds Try.pinned (OpenSpec.ofChange fnExactMeetOfSpec)

/-- ITS FALSE NEIGHBOUR: 'it returns false'. Refute it at one input. -/
def fnExactMeetOfWrong : ChangeSpec := { name := "fnExactMeetOf", fn := fun _ => fun
  | [d1, d2] => { results := [.lit (.bool false)], args := [d1, d2] }
  | _ => none }
def FnExactMeetOfWrongFalsely : Prop := fnExactMeetOfRow.holds Try.pinned (OpenSpec.ofChange fnExactMeetOfWrong)

/-- 'laws.FnExactMeanAgainst': WHATEVER THE INPUT: true; the input reads as it did. -/
def fnExactMeanAgainstSpec : ChangeSpec := { name := "fnExactMeanAgainst", fn := fun _ => fun
  | [d1, d2, d3] => { results := [.lit (.bool true)], args := [d1, d2, d3] }
  | _ => none }
def fnExactMeanAgainstRow : OpenClaim := { program := "ytffbofkjefjlpaa", sum := "ae24c7aeed3467fc6c6b039736072d5662deada1a77a015bb34e61f1ac76d9ca", func := "loop.example/strategiesthatspread/laws.FnExactMeanAgainst", spec := "fnExactMeanAgainst", unfollowed := true, recurses := true, apart := false }
def FnExactMeanAgainstSaid : Prop := fnExactMeanAgainstRow.holds Try.pinned (OpenSpec.ofChange fnExactMeanAgainstSpec)

/-- ITS FALSE NEIGHBOUR: 'it returns false'. Refute it at one input. -/
def fnExactMeanAgainstWrong : ChangeSpec := { name := "fnExactMeanAgainst", fn := fun _ => fun
  | [d1, d2, d3] => { results := [.lit (.bool false)], args := [d1, d2, d3] }
  | _ => none }
def FnExactMeanAgainstWrongFalsely : Prop := fnExactMeanAgainstRow.holds Try.pinned (OpenSpec.ofChange fnExactMeanAgainstWrong)

/-- 'laws.FnExactBestAgainst': WHATEVER THE INPUT: true; the input reads as it did. -/
def fnExactBestAgainstSpec : ChangeSpec := { name := "fnExactBestAgainst", fn := fun _ => fun
  | [d1, d2] => { results := [.lit (.bool true)], args := [d1, d2] }
  | _ => none }
def fnExactBestAgainstRow : OpenClaim := { program := "ytffbofkjefjlpaa", sum := "ae24c7aeed3467fc6c6b039736072d5662deada1a77a015bb34e61f1ac76d9ca", func := "loop.example/strategiesthatspread/laws.FnExactBestAgainst", spec := "fnExactBestAgainst", unfollowed := true, recurses := true, apart := false }
def FnExactBestAgainstSaid : Prop := fnExactBestAgainstRow.holds Try.pinned (OpenSpec.ofChange fnExactBestAgainstSpec)

/-- ITS FALSE NEIGHBOUR: 'it returns false'. Refute it at one input. -/
def fnExactBestAgainstWrong : ChangeSpec := { name := "fnExactBestAgainst", fn := fun _ => fun
  | [d1, d2] => { results := [.lit (.bool false)], args := [d1, d2] }
  | _ => none }
def FnExactBestAgainstWrongFalsely : Prop := fnExactBestAgainstRow.holds Try.pinned (OpenSpec.ofChange fnExactBestAgainstWrong)

/-- 'laws.FnExactBestByWalks': WHATEVER THE INPUT: true; the input reads as it did. -/
def fnExactBestByWalksSpec : ChangeSpec := { name := "fnExactBestByWalks", fn := fun _ => fun
  | [d1, d2] => { results := [.lit (.bool true)], args := [d1, d2] }
  | _ => none }
def fnExactBestByWalksRow : OpenClaim := { program := "ytffbofkjefjlpaa", sum := "ae24c7aeed3467fc6c6b039736072d5662deada1a77a015bb34e61f1ac76d9ca", func := "loop.example/strategiesthatspread/laws.FnExactBestByWalks", spec := "fnExactBestByWalks", unfollowed := true, recurses := true, apart := false }
def FnExactBestByWalksSaid : Prop := fnExactBestByWalksRow.holds Try.pinned (OpenSpec.ofChange fnExactBestByWalksSpec)

/-- ITS FALSE NEIGHBOUR: 'it returns false'. Refute it at one input. -/
def fnExactBestByWalksWrong : ChangeSpec := { name := "fnExactBestByWalks", fn := fun _ => fun
  | [d1, d2] => { results := [.lit (.bool false)], args := [d1, d2] }
  | _ => none }
def FnExactBestByWalksWrongFalsely : Prop := fnExactBestByWalksRow.holds Try.pinned (OpenSpec.ofChange fnExactBestByWalksWrong)

/-- 'laws.FnExactShrinkMoore': WHATEVER THE INPUT: true; the input reads as it did. -/
def fnExactShrinkMooreSpec : ChangeSpec := { name := "fnExactShrinkMoore", fn := fun _ => fun
  | [d] => { results := [.lit (.bool true)], args := [d] }
  | _ => none }
def fnExactShrinkMooreRow : OpenClaim := { program := "ytffbofkjefjlpaa", sum := "ae24c7aeed3467fc6c6b039736072d5662deada1a77a015bb34e61f1ac76d9ca", func := "loop.example/strategiesthatspread/laws.FnExactShrinkMoore", spec := "fnExactShrinkMoore", recurses := true, apart := false }
def FnExactShrinkMooreSaid : Prop := fnExactShrinkMooreRow.holds Try.pinned (OpenSpec.ofChange fnExactShrinkMooreSpec)

/-- ITS FALSE NEIGHBOUR: 'it returns false'. Refute it at one input. -/
def fnExactShrinkMooreWrong : ChangeSpec := { name := "fnExactShrinkMoore", fn := fun _ => fun
  | [d] => { results := [.lit (.bool false)], args := [d] }
  | _ => none }
def FnExactShrinkMooreWrongFalsely : Prop := fnExactShrinkMooreRow.holds Try.pinned (OpenSpec.ofChange fnExactShrinkMooreWrong)

/-- 'laws.FnValidMoore': WHATEVER THE INPUT: true; the input reads as it did. -/
def fnValidMooreSpec : ChangeSpec := { name := "fnValidMoore", fn := fun _ => fun
  | [d] => { results := [.lit (.bool true)], args := [d] }
  | _ => none }
def fnValidMooreRow : OpenClaim := { program := "ytffbofkjefjlpaa", sum := "ae24c7aeed3467fc6c6b039736072d5662deada1a77a015bb34e61f1ac76d9ca", func := "loop.example/strategiesthatspread/laws.FnValidMoore", spec := "fnValidMoore", apart := false }
def FnValidMooreSaid : Prop := fnValidMooreRow.holds Try.pinned (OpenSpec.ofChange fnValidMooreSpec)

/-- ITS FALSE NEIGHBOUR: 'it returns false'. Refute it at one input. -/
def fnValidMooreWrong : ChangeSpec := { name := "fnValidMoore", fn := fun _ => fun
  | [d] => { results := [.lit (.bool false)], args := [d] }
  | _ => none }
def FnValidMooreWrongFalsely : Prop := fnValidMooreRow.holds Try.pinned (OpenSpec.ofChange fnValidMooreWrong)

/-- 'laws.FnMeetOf': WHATEVER THE INPUT: true; the input reads as it did. -/
def fnMeetOfSpec : ChangeSpec := { name := "fnMeetOf", fn := fun _ => fun
  | [d] => { results := [.lit (.bool true)], args := [d] }
  | _ => none }
def fnMeetOfRow : OpenClaim := { program := "ytffbofkjefjlpaa", sum := "ae24c7aeed3467fc6c6b039736072d5662deada1a77a015bb34e61f1ac76d9ca", func := "loop.example/strategiesthatspread/laws.FnMeetOf", spec := "fnMeetOf", unfollowed := true, recurses := true, apart := false }
def FnMeetOfSaid : Prop := fnMeetOfRow.holds Try.pinned (OpenSpec.ofChange fnMeetOfSpec)

/-- ITS FALSE NEIGHBOUR: 'it returns false'. Refute it at one input. -/
def fnMeetOfWrong : ChangeSpec := { name := "fnMeetOf", fn := fun _ => fun
  | [d] => { results := [.lit (.bool false)], args := [d] }
  | _ => none }
def FnMeetOfWrongFalsely : Prop := fnMeetOfRow.holds Try.pinned (OpenSpec.ofChange fnMeetOfWrong)

/-- 'laws.FnMeanAgainst': WHATEVER THE INPUT: true; the input reads as it did. -/
def fnMeanAgainstSpec : ChangeSpec := { name := "fnMeanAgainst", fn := fun _ => fun
  | [d] => { results := [.lit (.bool true)], args := [d] }
  | _ => none }
def fnMeanAgainstRow : OpenClaim := { program := "ytffbofkjefjlpaa", sum := "ae24c7aeed3467fc6c6b039736072d5662deada1a77a015bb34e61f1ac76d9ca", func := "loop.example/strategiesthatspread/laws.FnMeanAgainst", spec := "fnMeanAgainst", unfollowed := true, recurses := true, apart := false }
def FnMeanAgainstSaid : Prop := fnMeanAgainstRow.holds Try.pinned (OpenSpec.ofChange fnMeanAgainstSpec)

/-- ITS FALSE NEIGHBOUR: 'it returns false'. Refute it at one input. -/
def fnMeanAgainstWrong : ChangeSpec := { name := "fnMeanAgainst", fn := fun _ => fun
  | [d] => { results := [.lit (.bool false)], args := [d] }
  | _ => none }
def FnMeanAgainstWrongFalsely : Prop := fnMeanAgainstRow.holds Try.pinned (OpenSpec.ofChange fnMeanAgainstWrong)

/-- 'laws.FnStubbornMachines': WHATEVER THE INPUT: true; the input reads as it did. -/
def fnStubbornMachinesSpec : ChangeSpec := { name := "fnStubbornMachines", fn := fun _ => fun
  | [d] => { results := [.lit (.bool true)], args := [d] }
  | _ => none }
def fnStubbornMachinesRow : OpenClaim := { program := "ytffbofkjefjlpaa", sum := "ae24c7aeed3467fc6c6b039736072d5662deada1a77a015bb34e61f1ac76d9ca", func := "loop.example/strategiesthatspread/laws.FnStubbornMachines", spec := "fnStubbornMachines", unfollowed := true, recurses := true, apart := false }
def FnStubbornMachinesSaid : Prop := fnStubbornMachinesRow.holds Try.pinned (OpenSpec.ofChange fnStubbornMachinesSpec)

/-- ITS FALSE NEIGHBOUR: 'it returns false'. Refute it at one input. -/
def fnStubbornMachinesWrong : ChangeSpec := { name := "fnStubbornMachines", fn := fun _ => fun
  | [d] => { results := [.lit (.bool false)], args := [d] }
  | _ => none }
def FnStubbornMachinesWrongFalsely : Prop := fnStubbornMachinesRow.holds Try.pinned (OpenSpec.ofChange fnStubbornMachinesWrong)

/- THE SECOND FORM. 'bulk': how many values and letters a reading holds, each counted each time it is reached (what is shared counts as often as it is met; a slice's spare places count too). A statement '..UptoSaid' is the law's where the arguments, and the package variables that the reading takes, are together of bulk at most 1048576: NARROWER than '..Said'. Prove '..Said' where nothing that the law and all that it calls make is longer than what came in: it says more and counts as full. Else prove '..UptoSaid'. A law counts once. -/
mutual
def uptoBulk {H : Type} : DataW H → Nat
  | .lit (.string bytes) => bytes.length + 1
  | .lit _ => 1
  | .nil => 1
  | .ptr d => uptoBulk d + 1
  | .slice elems spare => uptoBulkAll elems + uptoBulkAll spare + 1
  | .agg parts => uptoBulkAll parts + 1
  | .iface _ d => uptoBulk d + 1
  | .map entries => uptoBulkEntries entries + 1
  | .held _ => 1
def uptoBulkAll {H : Type} : List (DataW H) → Nat
  | [] => 0
  | d :: r => uptoBulk d + uptoBulkAll r
def uptoBulkEntries {H : Type} : List (Lit × DataW H) → Nat
  | [] => 0
  | x :: r => uptoBulkEntry x + uptoBulkEntries r
def uptoBulkEntry {H : Type} : Lit × DataW H → Nat
  | (.string bytes, d) => bytes.length + uptoBulk d + 1
  | (_, d) => uptoBulk d + 1
 end
def uptoSmall : (H : Type) → List (DataW H) → Bool := fun _ ds => decide (uptoBulkAll ds ≤ 1048576)
def OpenSpec.upto (s : _root_.Go.ChangeSpec) : _root_.Go.OpenSpec := { _root_.Go.OpenSpec.ofChange s with cond := some uptoSmall }

/-- 'laws.FnExactValidMoore', WHERE WHAT IT READS IS OF BULK AT MOST 1048576: true; the input reads as it did. -/
def fnExactValidMooreUptoRow : OpenClaim := { program := "ytffbofkjefjlpaa", sum := "ae24c7aeed3467fc6c6b039736072d5662deada1a77a015bb34e61f1ac76d9ca", func := "loop.example/strategiesthatspread/laws.FnExactValidMoore", spec := "fnExactValidMoore", apart := false, narrowed := true }
def FnExactValidMooreUptoSaid : Prop := fnExactValidMooreUptoRow.holds Try.pinned (OpenSpec.upto fnExactValidMooreSpec)

/-- 'laws.FnExactMeetOf', WHERE WHAT IT READS IS OF BULK AT MOST 1048576: true; the input reads as it did. -/
def fnExactMeetOfUptoRow : OpenClaim := { program := "ytffbofkjefjlpaa", sum := "ae24c7aeed3467fc6c6b039736072d5662deada1a77a015bb34e61f1ac76d9ca", func := "loop.example/strategiesthatspread/laws.FnExactMeetOf", spec := "fnExactMeetOf", unfollowed := true, recurses := true, apart := false, narrowed := true }
def FnExactMeetOfUptoSaid : Prop := fnExactMeetOfUptoRow.holds Try.pinned (OpenSpec.upto fnExactMeetOfSpec)

/-- 'laws.FnExactMeanAgainst', WHERE WHAT IT READS IS OF BULK AT MOST 1048576: true; the input reads as it did. -/
def fnExactMeanAgainstUptoRow : OpenClaim := { program := "ytffbofkjefjlpaa", sum := "ae24c7aeed3467fc6c6b039736072d5662deada1a77a015bb34e61f1ac76d9ca", func := "loop.example/strategiesthatspread/laws.FnExactMeanAgainst", spec := "fnExactMeanAgainst", unfollowed := true, recurses := true, apart := false, narrowed := true }
def FnExactMeanAgainstUptoSaid : Prop := fnExactMeanAgainstUptoRow.holds Try.pinned (OpenSpec.upto fnExactMeanAgainstSpec)

/-- 'laws.FnExactBestAgainst', WHERE WHAT IT READS IS OF BULK AT MOST 1048576: true; the input reads as it did. -/
def fnExactBestAgainstUptoRow : OpenClaim := { program := "ytffbofkjefjlpaa", sum := "ae24c7aeed3467fc6c6b039736072d5662deada1a77a015bb34e61f1ac76d9ca", func := "loop.example/strategiesthatspread/laws.FnExactBestAgainst", spec := "fnExactBestAgainst", unfollowed := true, recurses := true, apart := false, narrowed := true }
def FnExactBestAgainstUptoSaid : Prop := fnExactBestAgainstUptoRow.holds Try.pinned (OpenSpec.upto fnExactBestAgainstSpec)

/-- 'laws.FnExactBestByWalks', WHERE WHAT IT READS IS OF BULK AT MOST 1048576: true; the input reads as it did. -/
def fnExactBestByWalksUptoRow : OpenClaim := { program := "ytffbofkjefjlpaa", sum := "ae24c7aeed3467fc6c6b039736072d5662deada1a77a015bb34e61f1ac76d9ca", func := "loop.example/strategiesthatspread/laws.FnExactBestByWalks", spec := "fnExactBestByWalks", unfollowed := true, recurses := true, apart := false, narrowed := true }
def FnExactBestByWalksUptoSaid : Prop := fnExactBestByWalksUptoRow.holds Try.pinned (OpenSpec.upto fnExactBestByWalksSpec)

/-- 'laws.FnExactShrinkMoore', WHERE WHAT IT READS IS OF BULK AT MOST 1048576: true; the input reads as it did. -/
def fnExactShrinkMooreUptoRow : OpenClaim := { program := "ytffbofkjefjlpaa", sum := "ae24c7aeed3467fc6c6b039736072d5662deada1a77a015bb34e61f1ac76d9ca", func := "loop.example/strategiesthatspread/laws.FnExactShrinkMoore", spec := "fnExactShrinkMoore", recurses := true, apart := false, narrowed := true }
def FnExactShrinkMooreUptoSaid : Prop := fnExactShrinkMooreUptoRow.holds Try.pinned (OpenSpec.upto fnExactShrinkMooreSpec)

/-- 'laws.FnValidMoore', WHERE WHAT IT READS IS OF BULK AT MOST 1048576: true; the input reads as it did. -/
def fnValidMooreUptoRow : OpenClaim := { program := "ytffbofkjefjlpaa", sum := "ae24c7aeed3467fc6c6b039736072d5662deada1a77a015bb34e61f1ac76d9ca", func := "loop.example/strategiesthatspread/laws.FnValidMoore", spec := "fnValidMoore", apart := false, narrowed := true }
def FnValidMooreUptoSaid : Prop := fnValidMooreUptoRow.holds Try.pinned (OpenSpec.upto fnValidMooreSpec)

/-- 'laws.FnMeetOf', WHERE WHAT IT READS IS OF BULK AT MOST 1048576: true; the input reads as it did. -/
def fnMeetOfUptoRow : OpenClaim := { program := "ytffbofkjefjlpaa", sum := "ae24c7aeed3467fc6c6b039736072d5662deada1a77a015bb34e61f1ac76d9ca", func := "loop.example/strategiesthatspread/laws.FnMeetOf", spec := "fnMeetOf", unfollowed := true, recurses := true, apart := false, narrowed := true }
def FnMeetOfUptoSaid : Prop := fnMeetOfUptoRow.holds Try.pinned (OpenSpec.upto fnMeetOfSpec)

/-- 'laws.FnMeanAgainst', WHERE WHAT IT READS IS OF BULK AT MOST 1048576: true; the input reads as it did. -/
def fnMeanAgainstUptoRow : OpenClaim := { program := "ytffbofkjefjlpaa", sum := "ae24c7aeed3467fc6c6b039736072d5662deada1a77a015bb34e61f1ac76d9ca", func := "loop.example/strategiesthatspread/laws.FnMeanAgainst", spec := "fnMeanAgainst", unfollowed := true, recurses := true, apart := false, narrowed := true }
def FnMeanAgainstUptoSaid : Prop := fnMeanAgainstUptoRow.holds Try.pinned (OpenSpec.upto fnMeanAgainstSpec)

/-- 'laws.FnStubbornMachines', WHERE WHAT IT READS IS OF BULK AT MOST 1048576: true; the input reads as it did. -/
def fnStubbornMachinesUptoRow : OpenClaim := { program := "ytffbofkjefjlpaa", sum := "ae24c7aeed3467fc6c6b039736072d5662deada1a77a015bb34e61f1ac76d9ca", func := "loop.example/strategiesthatspread/laws.FnStubbornMachines", spec := "fnStubbornMachines", unfollowed := true, recurses := true, apart := false, narrowed := true }
def FnStubbornMachinesUptoSaid : Prop := fnStubbornMachinesUptoRow.holds Try.pinned (OpenSpec.upto fnStubbornMachinesSpec)

end Rows
end Go.Proofs.Ytffbofkjefjlpaa
