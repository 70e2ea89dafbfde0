/-
  No cell of these rows narrows 'for every input' (looked for: loops, veiled, ifaces, maps, wideKeys, modest, calm, conditions, laid).
  DERIVED. THE GIVEN ROWS OF THIS SEAT. 10 by the template 'for every input the law returns true; each argument reads behind the call as it read before'; 0 by the template 'total and deterministic' (their statements: YtlfljcemcaphcaaTotals.lean).
  GIVEN WITH THE SEED: the statements are not yours to turn. If you find one false, say at which input.
  Laid BY PROGRAM, IN A SANDBOX (cutbox-rows.mjs): the forced cells as the released guide's own fill.sh prints them over the translation b5b30e9b59c4da1e… (all of the seat's roots in one cut). By AI agents, Wed Nov 11 2026. No macro, syntax, notation, axiom, sorry.
-/
import Derived.Test.YtlfljcemcaphcaaChecked
import GoSem.Claim
import GoSem.ClaimJoined
import GoSem.ClaimMapViews
import Derived.JoinedTies
import Derived.KernelRfl
namespace Go.Proofs.Ytlfljcemcaphcaa
/- THE CELL 'sum', in the pinned program and in every row, IS THE sha256 OF THE DUMP (.gsa) THAT YtlfljcemcaphcaaProg.lean LOADS. Nothing in Lean hashes anything: it is a label: what it is worth is what the hold of that sum in a sandbox is worth. -/
noncomputable def Try.pinned : Pinned := { name := "ytlfljcemcaphcaa", sum := "b5b30e9b59c4da1e6c46b82e207cf54543ed664cf5b7b5a8b0813d09fd4f40e4", checked := Try.checked }
namespace Rows
def none {H : Type} : Left H := { results := [], args := [] }

/-- 'laws.FnExactValidFolk': WHATEVER THE INPUT: true; the input reads as it did. -/
def fnExactValidFolkSpec : ChangeSpec := { name := "fnExactValidFolk", fn := fun _ => fun
  | [d] => { results := [.lit (.bool true)], args := [d] }
  | _ => none }
def fnExactValidFolkRow : OpenClaim := { program := "ytlfljcemcaphcaa", sum := "b5b30e9b59c4da1e6c46b82e207cf54543ed664cf5b7b5a8b0813d09fd4f40e4", func := "loop.example/strategiesthatspread/laws.FnExactValidFolk", spec := "fnExactValidFolk", apart := false }
def FnExactValidFolkSaid : Prop := fnExactValidFolkRow.holds Try.pinned (OpenSpec.ofChange fnExactValidFolkSpec)

/-- ITS FALSE NEIGHBOUR: 'it returns false'. Refute it at one input. -/
def fnExactValidFolkWrong : ChangeSpec := { name := "fnExactValidFolk", fn := fun _ => fun
  | [d] => { results := [.lit (.bool false)], args := [d] }
  | _ => none }
def FnExactValidFolkWrongFalsely : Prop := fnExactValidFolkRow.holds Try.pinned (OpenSpec.ofChange fnExactValidFolkWrong)

/-- 'laws.FnExactKinOf': WHATEVER THE INPUT: true; the input reads as it did. -/
def fnExactKinOfSpec : ChangeSpec := { name := "fnExactKinOf", fn := fun _ => fun
  | [d1, d2, d3] => { results := [.lit (.bool true)], args := [d1, d2, d3] }
  | _ => none }
def fnExactKinOfRow : OpenClaim := { program := "ytlfljcemcaphcaa", sum := "b5b30e9b59c4da1e6c46b82e207cf54543ed664cf5b7b5a8b0813d09fd4f40e4", func := "loop.example/strategiesthatspread/laws.FnExactKinOf", spec := "fnExactKinOf", recurses := true, apart := false }
def FnExactKinOfSaid : Prop := fnExactKinOfRow.holds Try.pinned (OpenSpec.ofChange fnExactKinOfSpec)

/-- ITS FALSE NEIGHBOUR: 'it returns false'. Refute it at one input. -/
def fnExactKinOfWrong : ChangeSpec := { name := "fnExactKinOf", fn := fun _ => fun
  | [d1, d2, d3] => { results := [.lit (.bool false)], args := [d1, d2, d3] }
  | _ => none }
def FnExactKinOfWrongFalsely : Prop := fnExactKinOfRow.holds Try.pinned (OpenSpec.ofChange fnExactKinOfWrong)

/-- 'laws.FnExactInbredOf': WHATEVER THE INPUT: true; the input reads as it did. -/
def fnExactInbredOfSpec : ChangeSpec := { name := "fnExactInbredOf", fn := fun _ => fun
  | [d1, d2] => { results := [.lit (.bool true)], args := [d1, d2] }
  | _ => none }
def fnExactInbredOfRow : OpenClaim := { program := "ytlfljcemcaphcaa", sum := "b5b30e9b59c4da1e6c46b82e207cf54543ed664cf5b7b5a8b0813d09fd4f40e4", func := "loop.example/strategiesthatspread/laws.FnExactInbredOf", spec := "fnExactInbredOf", recurses := true, apart := false }
def FnExactInbredOfSaid : Prop := fnExactInbredOfRow.holds Try.pinned (OpenSpec.ofChange fnExactInbredOfSpec)

/-- ITS FALSE NEIGHBOUR: 'it returns false'. Refute it at one input. -/
def fnExactInbredOfWrong : ChangeSpec := { name := "fnExactInbredOf", fn := fun _ => fun
  | [d1, d2] => { results := [.lit (.bool false)], args := [d1, d2] }
  | _ => none }
def FnExactInbredOfWrongFalsely : Prop := fnExactInbredOfRow.holds Try.pinned (OpenSpec.ofChange fnExactInbredOfWrong)

/-- 'laws.FnExactHelpPays': WHATEVER THE INPUT: true; the input reads as it did. -/
def fnExactHelpPaysSpec : ChangeSpec := { name := "fnExactHelpPays", fn := fun _ => fun
  | [d1, d2, d3, d4, d5] => { results := [.lit (.bool true)], args := [d1, d2, d3, d4, d5] }
  | _ => none }
def fnExactHelpPaysRow : OpenClaim := { program := "ytlfljcemcaphcaa", sum := "b5b30e9b59c4da1e6c46b82e207cf54543ed664cf5b7b5a8b0813d09fd4f40e4", func := "loop.example/strategiesthatspread/laws.FnExactHelpPays", spec := "fnExactHelpPays", recurses := true, apart := false }
def FnExactHelpPaysSaid : Prop := fnExactHelpPaysRow.holds Try.pinned (OpenSpec.ofChange fnExactHelpPaysSpec)

/-- ITS FALSE NEIGHBOUR: 'it returns false'. Refute it at one input. -/
def fnExactHelpPaysWrong : ChangeSpec := { name := "fnExactHelpPays", fn := fun _ => fun
  | [d1, d2, d3, d4, d5] => { results := [.lit (.bool false)], args := [d1, d2, d3, d4, d5] }
  | _ => none }
def FnExactHelpPaysWrongFalsely : Prop := fnExactHelpPaysRow.holds Try.pinned (OpenSpec.ofChange fnExactHelpPaysWrong)

/-- 'laws.FnExactTraitChange': WHATEVER THE INPUT: true; the input reads as it did. -/
def fnExactTraitChangeSpec : ChangeSpec := { name := "fnExactTraitChange", fn := fun _ => fun
  | [d] => { results := [.lit (.bool true)], args := [d] }
  | _ => none }
def fnExactTraitChangeRow : OpenClaim := { program := "ytlfljcemcaphcaa", sum := "b5b30e9b59c4da1e6c46b82e207cf54543ed664cf5b7b5a8b0813d09fd4f40e4", func := "loop.example/strategiesthatspread/laws.FnExactTraitChange", spec := "fnExactTraitChange", apart := false }
def FnExactTraitChangeSaid : Prop := fnExactTraitChangeRow.holds Try.pinned (OpenSpec.ofChange fnExactTraitChangeSpec)

/-- ITS FALSE NEIGHBOUR: 'it returns false'. Refute it at one input. -/
def fnExactTraitChangeWrong : ChangeSpec := { name := "fnExactTraitChange", fn := fun _ => fun
  | [d] => { results := [.lit (.bool false)], args := [d] }
  | _ => none }
def FnExactTraitChangeWrongFalsely : Prop := fnExactTraitChangeRow.holds Try.pinned (OpenSpec.ofChange fnExactTraitChangeWrong)

/-- 'laws.FnValidFolk': WHATEVER THE INPUT: true; the input reads as it did. -/
def fnValidFolkSpec : ChangeSpec := { name := "fnValidFolk", fn := fun _ => fun
  | [d] => { results := [.lit (.bool true)], args := [d] }
  | _ => none }
def fnValidFolkRow : OpenClaim := { program := "ytlfljcemcaphcaa", sum := "b5b30e9b59c4da1e6c46b82e207cf54543ed664cf5b7b5a8b0813d09fd4f40e4", func := "loop.example/strategiesthatspread/laws.FnValidFolk", spec := "fnValidFolk", apart := false }
def FnValidFolkSaid : Prop := fnValidFolkRow.holds Try.pinned (OpenSpec.ofChange fnValidFolkSpec)

/-- ITS FALSE NEIGHBOUR: 'it returns false'. Refute it at one input. -/
def fnValidFolkWrong : ChangeSpec := { name := "fnValidFolk", fn := fun _ => fun
  | [d] => { results := [.lit (.bool false)], args := [d] }
  | _ => none }
def FnValidFolkWrongFalsely : Prop := fnValidFolkRow.holds Try.pinned (OpenSpec.ofChange fnValidFolkWrong)

/-- 'laws.FnInbredOf': WHATEVER THE INPUT: true; the input reads as it did. -/
def fnInbredOfSpec : ChangeSpec := { name := "fnInbredOf", fn := fun _ => fun
  | [d] => { results := [.lit (.bool true)], args := [d] }
  | _ => none }
def fnInbredOfRow : OpenClaim := { program := "ytlfljcemcaphcaa", sum := "b5b30e9b59c4da1e6c46b82e207cf54543ed664cf5b7b5a8b0813d09fd4f40e4", func := "loop.example/strategiesthatspread/laws.FnInbredOf", spec := "fnInbredOf", recurses := true, apart := false }
def FnInbredOfSaid : Prop := fnInbredOfRow.holds Try.pinned (OpenSpec.ofChange fnInbredOfSpec)

/-- ITS FALSE NEIGHBOUR: 'it returns false'. Refute it at one input. -/
def fnInbredOfWrong : ChangeSpec := { name := "fnInbredOf", fn := fun _ => fun
  | [d] => { results := [.lit (.bool false)], args := [d] }
  | _ => none }
def FnInbredOfWrongFalsely : Prop := fnInbredOfRow.holds Try.pinned (OpenSpec.ofChange fnInbredOfWrong)

/-- 'laws.FnHelpPays': WHATEVER THE INPUT: true; the input reads as it did. -/
def fnHelpPaysSpec : ChangeSpec := { name := "fnHelpPays", fn := fun _ => fun
  | [d] => { results := [.lit (.bool true)], args := [d] }
  | _ => none }
def fnHelpPaysRow : OpenClaim := { program := "ytlfljcemcaphcaa", sum := "b5b30e9b59c4da1e6c46b82e207cf54543ed664cf5b7b5a8b0813d09fd4f40e4", func := "loop.example/strategiesthatspread/laws.FnHelpPays", spec := "fnHelpPays", recurses := true, apart := false }
def FnHelpPaysSaid : Prop := fnHelpPaysRow.holds Try.pinned (OpenSpec.ofChange fnHelpPaysSpec)

/-- ITS FALSE NEIGHBOUR: 'it returns false'. Refute it at one input. -/
def fnHelpPaysWrong : ChangeSpec := { name := "fnHelpPays", fn := fun _ => fun
  | [d] => { results := [.lit (.bool false)], args := [d] }
  | _ => none }
def FnHelpPaysWrongFalsely : Prop := fnHelpPaysRow.holds Try.pinned (OpenSpec.ofChange fnHelpPaysWrong)

/-- 'laws.FnTraitChange': WHATEVER THE INPUT: true; the input reads as it did. -/
def fnTraitChangeSpec : ChangeSpec := { name := "fnTraitChange", fn := fun _ => fun
  | [d] => { results := [.lit (.bool true)], args := [d] }
  | _ => none }
def fnTraitChangeRow : OpenClaim := { program := "ytlfljcemcaphcaa", sum := "b5b30e9b59c4da1e6c46b82e207cf54543ed664cf5b7b5a8b0813d09fd4f40e4", func := "loop.example/strategiesthatspread/laws.FnTraitChange", spec := "fnTraitChange", apart := false }
def FnTraitChangeSaid : Prop := fnTraitChangeRow.holds Try.pinned (OpenSpec.ofChange fnTraitChangeSpec)

/-- ITS FALSE NEIGHBOUR: 'it returns false'. Refute it at one input. -/
def fnTraitChangeWrong : ChangeSpec := { name := "fnTraitChange", fn := fun _ => fun
  | [d] => { results := [.lit (.bool false)], args := [d] }
  | _ => none }
def FnTraitChangeWrongFalsely : Prop := fnTraitChangeRow.holds Try.pinned (OpenSpec.ofChange fnTraitChangeWrong)

/-- 'laws.FnHelpYourself': WHATEVER THE INPUT: true; the input reads as it did. -/
def fnHelpYourselfSpec : ChangeSpec := { name := "fnHelpYourself", fn := fun _ => fun
  | [d] => { results := [.lit (.bool true)], args := [d] }
  | _ => none }
def fnHelpYourselfRow : OpenClaim := { program := "ytlfljcemcaphcaa", sum := "b5b30e9b59c4da1e6c46b82e207cf54543ed664cf5b7b5a8b0813d09fd4f40e4", func := "loop.example/strategiesthatspread/laws.FnHelpYourself", spec := "fnHelpYourself", recurses := true, apart := false }
def FnHelpYourselfSaid : Prop := fnHelpYourselfRow.holds Try.pinned (OpenSpec.ofChange fnHelpYourselfSpec)

/-- ITS FALSE NEIGHBOUR: 'it returns false'. Refute it at one input. -/
def fnHelpYourselfWrong : ChangeSpec := { name := "fnHelpYourself", fn := fun _ => fun
  | [d] => { results := [.lit (.bool false)], args := [d] }
  | _ => none }
def FnHelpYourselfWrongFalsely : Prop := fnHelpYourselfRow.holds Try.pinned (OpenSpec.ofChange fnHelpYourselfWrong)

/- THE SECOND FORM. 'bulk': how many values and letters a reading holds, each counted each time it is reached (what is shared counts as often as it is met; a slice's spare places count too). A statement '..UptoSaid' is the law's where the arguments, and the package variables that the reading takes, are together of bulk at most 1048576: NARROWER than '..Said'. Prove '..Said' where nothing that the law and all that it calls make is longer than what came in: it says more and counts as full. Else prove '..UptoSaid'. A law counts once. -/
mutual
def uptoBulk {H : Type} : DataW H → Nat
  | .lit (.string bytes) => bytes.length + 1
  | .lit _ => 1
  | .nil => 1
  | .ptr d => uptoBulk d + 1
  | .slice elems spare => uptoBulkAll elems + uptoBulkAll spare + 1
  | .agg parts => uptoBulkAll parts + 1
  | .iface _ d => uptoBulk d + 1
  | .map entries => uptoBulkEntries entries + 1
  | .held _ => 1
def uptoBulkAll {H : Type} : List (DataW H) → Nat
  | [] => 0
  | d :: r => uptoBulk d + uptoBulkAll r
def uptoBulkEntries {H : Type} : List (Lit × DataW H) → Nat
  | [] => 0
  | x :: r => uptoBulkEntry x + uptoBulkEntries r
def uptoBulkEntry {H : Type} : Lit × DataW H → Nat
  | (.string bytes, d) => bytes.length + uptoBulk d + 1
  | (_, d) => uptoBulk d + 1
 end
def uptoSmall : (H : Type) → List (DataW H) → Bool := fun _ ds => decide (uptoBulkAll ds ≤ 1048576)
def OpenSpec.upto (s : _root_.Go.ChangeSpec) : _root_.Go.OpenSpec := { _root_.Go.OpenSpec.ofChange s with cond := some uptoSmall }

/-- 'laws.FnExactValidFolk', WHERE WHAT IT READS IS OF BULK AT MOST 1048576: true; the input reads as it did. -/
def fnExactValidFolkUptoRow : OpenClaim := { program := "ytlfljcemcaphcaa", sum := "b5b30e9b59c4da1e6c46b82e207cf54543ed664cf5b7b5a8b0813d09fd4f40e4", func := "loop.example/strategiesthatspread/laws.FnExactValidFolk", spec := "fnExactValidFolk", apart := false, narrowed := true }
def FnExactValidFolkUptoSaid : Prop := fnExactValidFolkUptoRow.holds Try.pinned (OpenSpec.upto fnExactValidFolkSpec)

/-- 'laws.FnExactKinOf', WHERE WHAT IT READS IS OF BULK AT MOST 1048576: true; the input reads as it did. -/
def fnExactKinOfUptoRow : OpenClaim := { program := "ytlfljcemcaphcaa", sum := "b5b30e9b59c4da1e6c46b82e207cf54543ed664cf5b7b5a8b0813d09fd4f40e4", func := "loop.example/strategiesthatspread/laws.FnExactKinOf", spec := "fnExactKinOf", recurses := true, apart := false, narrowed := true }
def FnExactKinOfUptoSaid : Prop := fnExactKinOfUptoRow.holds Try.pinned (OpenSpec.upto fnExactKinOfSpec)

/-- 'laws.FnExactInbredOf', WHERE WHAT IT READS IS OF BULK AT MOST 1048576: true; the input reads as it did. -/
def fnExactInbredOfUptoRow : OpenClaim := { program := "ytlfljcemcaphcaa", sum := "b5b30e9b59c4da1e6c46b82e207cf54543ed664cf5b7b5a8b0813d09fd4f40e4", func := "loop.example/strategiesthatspread/laws.FnExactInbredOf", spec := "fnExactInbredOf", recurses := true, apart := false, narrowed := true }
def FnExactInbredOfUptoSaid : Prop := fnExactInbredOfUptoRow.holds Try.pinned (OpenSpec.upto fnExactInbredOfSpec)

/-- 'laws.FnExactHelpPays', WHERE WHAT IT READS IS OF BULK AT MOST 1048576: true; the input reads as it did. -/
def fnExactHelpPaysUptoRow : OpenClaim := { program := "ytlfljcemcaphcaa", sum := "b5b30e9b59c4da1e6c46b82e207cf54543ed664cf5b7b5a8b0813d09fd4f40e4", func := "loop.example/strategiesthatspread/laws.FnExactHelpPays", spec := "fnExactHelpPays", recurses := true, apart := false, narrowed := true }
def FnExactHelpPaysUptoSaid : Prop := fnExactHelpPaysUptoRow.holds Try.pinned (OpenSpec.upto fnExactHelpPaysSpec)

/-- 'laws.FnExactTraitChange', WHERE WHAT IT READS IS OF BULK AT MOST 1048576: true; the input reads as it did. -/
def fnExactTraitChangeUptoRow : OpenClaim := { program := "ytlfljcemcaphcaa", sum := "b5b30e9b59c4da1e6c46b82e207cf54543ed664cf5b7b5a8b0813d09fd4f40e4", func := "loop.example/strategiesthatspread/laws.FnExactTraitChange", spec := "fnExactTraitChange", apart := false, narrowed := true }
def FnExactTraitChangeUptoSaid : Prop := fnExactTraitChangeUptoRow.holds Try.pinned (OpenSpec.upto fnExactTraitChangeSpec)

/-- 'laws.FnValidFolk', WHERE WHAT IT READS IS OF BULK AT MOST 1048576: true; the input reads as it did. -/
def fnValidFolkUptoRow : OpenClaim := { program := "ytlfljcemcaphcaa", sum := "b5b30e9b59c4da1e6c46b82e207cf54543ed664cf5b7b5a8b0813d09fd4f40e4", func := "loop.example/strategiesthatspread/laws.FnValidFolk", spec := "fnValidFolk", apart := false, narrowed := true }
def FnValidFolkUptoSaid : Prop := fnValidFolkUptoRow.holds Try.pinned (OpenSpec.upto fnValidFolkSpec)

/-- 'laws.FnInbredOf', WHERE WHAT IT READS IS OF BULK AT MOST 1048576: true; the input reads as it did. -/
def fnInbredOfUptoRow : OpenClaim := { program := "ytlfljcemcaphcaa", sum := "b5b30e9b59c4da1e6c46b82e207cf54543ed664cf5b7b5a8b0813d09fd4f40e4", func := "loop.example/strategiesthatspread/laws.FnInbredOf", spec := "fnInbredOf", recurses := true, apart := false, narrowed := true }
def FnInbredOfUptoSaid : Prop := fnInbredOfUptoRow.holds Try.pinned (OpenSpec.upto fnInbredOfSpec)

/-- 'laws.FnHelpPays', WHERE WHAT IT READS IS OF BULK AT MOST 1048576: true; the input reads as it did. -/
def fnHelpPaysUptoRow : OpenClaim := { program := "ytlfljcemcaphcaa", sum := "b5b30e9b59c4da1e6c46b82e207cf54543ed664cf5b7b5a8b0813d09fd4f40e4", func := "loop.example/strategiesthatspread/laws.FnHelpPays", spec := "fnHelpPays", recurses := true, apart := false, narrowed := true }
def FnHelpPaysUptoSaid : Prop := fnHelpPaysUptoRow.holds Try.pinned (OpenSpec.upto fnHelpPaysSpec)

/-- 'laws.FnTraitChange', WHERE WHAT IT READS IS OF BULK AT MOST 1048576: true; the input reads as it did. -/
def fnTraitChangeUptoRow : OpenClaim := { program := "ytlfljcemcaphcaa", sum := "b5b30e9b59c4da1e6c46b82e207cf54543ed664cf5b7b5a8b0813d09fd4f40e4", func := "loop.example/strategiesthatspread/laws.FnTraitChange", spec := "fnTraitChange", apart := false, narrowed := true }
def FnTraitChangeUptoSaid : Prop := fnTraitChangeUptoRow.holds Try.pinned (OpenSpec.upto fnTraitChangeSpec)

/-- 'laws.FnHelpYourself', WHERE WHAT IT READS IS OF BULK AT MOST 1048576: true; the input reads as it did. -/
def fnHelpYourselfUptoRow : OpenClaim := { program := "ytlfljcemcaphcaa", sum := "b5b30e9b59c4da1e6c46b82e207cf54543ed664cf5b7b5a8b0813d09fd4f40e4", func := "loop.example/strategiesthatspread/laws.FnHelpYourself", spec := "fnHelpYourself", recurses := true, apart := false, narrowed := true }
def FnHelpYourselfUptoSaid : Prop := fnHelpYourselfUptoRow.holds Try.pinned (OpenSpec.upto fnHelpYourselfSpec)

end Rows
end Go.Proofs.Ytlfljcemcaphcaa
