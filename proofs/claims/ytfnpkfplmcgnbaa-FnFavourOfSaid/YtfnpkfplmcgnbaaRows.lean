/-
  No cell of these rows narrows 'for every input' (looked for: loops, veiled, ifaces, maps, wideKeys, modest, calm, conditions, laid).
  DERIVED. THE GIVEN ROWS OF THIS SEAT. 8 by the template 'for every input the law returns true; each argument reads behind the call as it read before'; 0 by the template 'total and deterministic' (their statements: YtfnpkfplmcgnbaaTotals.lean).
  GIVEN WITH THE SEED: the statements are not yours to turn. If you find one false, say at which input.
  Laid BY PROGRAM, IN A SANDBOX (cutbox-rows.mjs): the forced cells as the released guide's own fill.sh prints them over the translation 857f857e301fbb17… (all of the seat's roots in one cut). By AI agents, Wed Nov 11 2026. No macro, syntax, notation, axiom, sorry.
-/
import Derived.Test.YtfnpkfplmcgnbaaChecked
import GoSem.Claim
import GoSem.ClaimJoined
import GoSem.ClaimMapViews
import Derived.JoinedTies
import Derived.KernelRfl
namespace Go.Proofs.Ytfnpkfplmcgnbaa
/- THE CELL 'sum', in the pinned program and in every row, IS THE sha256 OF THE DUMP (.gsa) THAT YtfnpkfplmcgnbaaProg.lean LOADS. Nothing in Lean hashes anything: it is a label: what it is worth is what the hold of that sum in a sandbox is worth. -/
noncomputable def Try.pinned : Pinned := { name := "ytfnpkfplmcgnbaa", sum := "857f857e301fbb1768c2658dc89d1ff2861660a6cd889e6fa0bd5e1bb8724280", checked := Try.checked }
namespace Rows
def none {H : Type} : Left H := { results := [], args := [] }

/-- 'laws.FnFavourOf': WHATEVER THE INPUT: true; the input reads as it did. -/
def fnFavourOfSpec : ChangeSpec := { name := "fnFavourOf", fn := fun _ => fun
  | [d] => { results := [.lit (.bool true)], args := [d] }
  | _ => none }
def fnFavourOfRow : OpenClaim := { program := "ytfnpkfplmcgnbaa", sum := "857f857e301fbb1768c2658dc89d1ff2861660a6cd889e6fa0bd5e1bb8724280", func := "loop.example/strategiesthatspread/laws.FnFavourOf", spec := "fnFavourOf", unfollowed := true, recurses := true, apart := false }
def FnFavourOfSaid : Prop := fnFavourOfRow.holds Try.pinned (OpenSpec.ofChange fnFavourOfSpec)

/-- ITS FALSE NEIGHBOUR: 'it returns false'. Refute it at one input. -/
def fnFavourOfWrong : ChangeSpec := { name := "fnFavourOf", fn := fun _ => fun
  | [d] => { results := [.lit (.bool false)], args := [d] }
  | _ => none }
def FnFavourOfWrongFalsely : Prop := fnFavourOfRow.holds Try.pinned (OpenSpec.ofChange fnFavourOfWrong)

/-- 'laws.FnOddsOf': WHATEVER THE INPUT: true; the input reads as it did. -/
def fnOddsOfSpec : ChangeSpec := { name := "fnOddsOf", fn := fun _ => fun
  | [d] => { results := [.lit (.bool true)], args := [d] }
  | _ => none }
def fnOddsOfRow : OpenClaim := { program := "ytfnpkfplmcgnbaa", sum := "857f857e301fbb1768c2658dc89d1ff2861660a6cd889e6fa0bd5e1bb8724280", func := "loop.example/strategiesthatspread/laws.FnOddsOf", spec := "fnOddsOf", unfollowed := true, recurses := true, apart := false }
def FnOddsOfSaid : Prop := fnOddsOfRow.holds Try.pinned (OpenSpec.ofChange fnOddsOfSpec)

/-- ITS FALSE NEIGHBOUR: 'it returns false'. Refute it at one input. -/
def fnOddsOfWrong : ChangeSpec := { name := "fnOddsOf", fn := fun _ => fun
  | [d] => { results := [.lit (.bool false)], args := [d] }
  | _ => none }
def FnOddsOfWrongFalsely : Prop := fnOddsOfRow.holds Try.pinned (OpenSpec.ofChange fnOddsOfWrong)

/-- 'laws.FnSameIsChance': WHATEVER THE INPUT: true; the input reads as it did. -/
def fnSameIsChanceSpec : ChangeSpec := { name := "fnSameIsChance", fn := fun _ => fun
  | [d] => { results := [.lit (.bool true)], args := [d] }
  | _ => none }
def fnSameIsChanceRow : OpenClaim := { program := "ytfnpkfplmcgnbaa", sum := "857f857e301fbb1768c2658dc89d1ff2861660a6cd889e6fa0bd5e1bb8724280", func := "loop.example/strategiesthatspread/laws.FnSameIsChance", spec := "fnSameIsChance", unfollowed := true, recurses := true, apart := false }
def FnSameIsChanceSaid : Prop := fnSameIsChanceRow.holds Try.pinned (OpenSpec.ofChange fnSameIsChanceSpec)

/-- ITS FALSE NEIGHBOUR: 'it returns false'. Refute it at one input. -/
def fnSameIsChanceWrong : ChangeSpec := { name := "fnSameIsChance", fn := fun _ => fun
  | [d] => { results := [.lit (.bool false)], args := [d] }
  | _ => none }
def FnSameIsChanceWrongFalsely : Prop := fnSameIsChanceRow.holds Try.pinned (OpenSpec.ofChange fnSameIsChanceWrong)

/-- 'laws.FnMoreIsSurer': WHATEVER THE INPUT: true; the input reads as it did. -/
def fnMoreIsSurerSpec : ChangeSpec := { name := "fnMoreIsSurer", fn := fun _ => fun
  | [d] => { results := [.lit (.bool true)], args := [d] }
  | _ => none }
def fnMoreIsSurerRow : OpenClaim := { program := "ytfnpkfplmcgnbaa", sum := "857f857e301fbb1768c2658dc89d1ff2861660a6cd889e6fa0bd5e1bb8724280", func := "loop.example/strategiesthatspread/laws.FnMoreIsSurer", spec := "fnMoreIsSurer", unfollowed := true, recurses := true, apart := false }
def FnMoreIsSurerSaid : Prop := fnMoreIsSurerRow.holds Try.pinned (OpenSpec.ofChange fnMoreIsSurerSpec)

/-- ITS FALSE NEIGHBOUR: 'it returns false'. Refute it at one input. -/
def fnMoreIsSurerWrong : ChangeSpec := { name := "fnMoreIsSurer", fn := fun _ => fun
  | [d] => { results := [.lit (.bool false)], args := [d] }
  | _ => none }
def FnMoreIsSurerWrongFalsely : Prop := fnMoreIsSurerRow.holds Try.pinned (OpenSpec.ofChange fnMoreIsSurerWrong)

/-- 'laws.FnLeftOver': WHATEVER THE INPUT: true; the input reads as it did. -/
def fnLeftOverSpec : ChangeSpec := { name := "fnLeftOver", fn := fun _ => fun
  | [d] => { results := [.lit (.bool true)], args := [d] }
  | _ => none }
def fnLeftOverRow : OpenClaim := { program := "ytfnpkfplmcgnbaa", sum := "857f857e301fbb1768c2658dc89d1ff2861660a6cd889e6fa0bd5e1bb8724280", func := "loop.example/strategiesthatspread/laws.FnLeftOver", spec := "fnLeftOver", apart := false }
def FnLeftOverSaid : Prop := fnLeftOverRow.holds Try.pinned (OpenSpec.ofChange fnLeftOverSpec)

/-- ITS FALSE NEIGHBOUR: 'it returns false'. Refute it at one input. -/
def fnLeftOverWrong : ChangeSpec := { name := "fnLeftOver", fn := fun _ => fun
  | [d] => { results := [.lit (.bool false)], args := [d] }
  | _ => none }
def FnLeftOverWrongFalsely : Prop := fnLeftOverRow.holds Try.pinned (OpenSpec.ofChange fnLeftOverWrong)

/-- 'laws.FnExactLeftOver': WHATEVER THE INPUT: true; the input reads as it did. -/
def fnExactLeftOverSpec : ChangeSpec := { name := "fnExactLeftOver", fn := fun _ => fun
  | [d] => { results := [.lit (.bool true)], args := [d] }
  | _ => none }
def fnExactLeftOverRow : OpenClaim := { program := "ytfnpkfplmcgnbaa", sum := "857f857e301fbb1768c2658dc89d1ff2861660a6cd889e6fa0bd5e1bb8724280", func := "loop.example/strategiesthatspread/laws.FnExactLeftOver", spec := "fnExactLeftOver", apart := false }
def FnExactLeftOverSaid : Prop := fnExactLeftOverRow.holds Try.pinned (OpenSpec.ofChange fnExactLeftOverSpec)

/-- ITS FALSE NEIGHBOUR: 'it returns false'. Refute it at one input. -/
def fnExactLeftOverWrong : ChangeSpec := { name := "fnExactLeftOver", fn := fun _ => fun
  | [d] => { results := [.lit (.bool false)], args := [d] }
  | _ => none }
def FnExactLeftOverWrongFalsely : Prop := fnExactLeftOverRow.holds Try.pinned (OpenSpec.ofChange fnExactLeftOverWrong)

/-- 'laws.FnExactPotentialOf': WHATEVER THE INPUT: true; the input reads as it did. -/
def fnExactPotentialOfSpec : ChangeSpec := { name := "fnExactPotentialOf", fn := fun _ => fun
  | [d] => { results := [.lit (.bool true)], args := [d] }
  | _ => none }
def fnExactPotentialOfRow : OpenClaim := { program := "ytfnpkfplmcgnbaa", sum := "857f857e301fbb1768c2658dc89d1ff2861660a6cd889e6fa0bd5e1bb8724280", func := "loop.example/strategiesthatspread/laws.FnExactPotentialOf", spec := "fnExactPotentialOf", apart := false }
def FnExactPotentialOfSaid : Prop := fnExactPotentialOfRow.holds Try.pinned (OpenSpec.ofChange fnExactPotentialOfSpec)

/-- ITS FALSE NEIGHBOUR: 'it returns false'. Refute it at one input. -/
def fnExactPotentialOfWrong : ChangeSpec := { name := "fnExactPotentialOf", fn := fun _ => fun
  | [d] => { results := [.lit (.bool false)], args := [d] }
  | _ => none }
def FnExactPotentialOfWrongFalsely : Prop := fnExactPotentialOfRow.holds Try.pinned (OpenSpec.ofChange fnExactPotentialOfWrong)

/-- 'laws.FnEvenHasPotential': WHATEVER THE INPUT: true; the input reads as it did. -/
def fnEvenHasPotentialSpec : ChangeSpec := { name := "fnEvenHasPotential", fn := fun _ => fun
  | [d] => { results := [.lit (.bool true)], args := [d] }
  | _ => none }
def fnEvenHasPotentialRow : OpenClaim := { program := "ytfnpkfplmcgnbaa", sum := "857f857e301fbb1768c2658dc89d1ff2861660a6cd889e6fa0bd5e1bb8724280", func := "loop.example/strategiesthatspread/laws.FnEvenHasPotential", spec := "fnEvenHasPotential", apart := false }
def FnEvenHasPotentialSaid : Prop := fnEvenHasPotentialRow.holds Try.pinned (OpenSpec.ofChange fnEvenHasPotentialSpec)

/-- ITS FALSE NEIGHBOUR: 'it returns false'. Refute it at one input. -/
def fnEvenHasPotentialWrong : ChangeSpec := { name := "fnEvenHasPotential", fn := fun _ => fun
  | [d] => { results := [.lit (.bool false)], args := [d] }
  | _ => none }
def FnEvenHasPotentialWrongFalsely : Prop := fnEvenHasPotentialRow.holds Try.pinned (OpenSpec.ofChange fnEvenHasPotentialWrong)

/- THE SECOND FORM. 'bulk': how many values and letters a reading holds, each counted each time it is reached (what is shared counts as often as it is met; a slice's spare places count too). A statement '..UptoSaid' is the law's where the arguments, and the package variables that the reading takes, are together of bulk at most 1048576: NARROWER than '..Said'. Prove '..Said' where nothing that the law and all that it calls make is longer than what came in: it says more and counts as full. Else prove '..UptoSaid'. A law counts once. -/
mutual
def uptoBulk {H : Type} : DataW H → Nat
  | .lit (.string bytes) => bytes.length + 1
  | .lit _ => 1
  | .nil => 1
  | .ptr d => uptoBulk d + 1
  | .slice elems spare => uptoBulkAll elems + uptoBulkAll spare + 1
  | .agg parts => uptoBulkAll parts + 1
  | .iface _ d => uptoBulk d + 1
  | .map entries => uptoBulkEntries entries + 1
  | .held _ => 1
def uptoBulkAll {H : Type} : List (DataW H) → Nat
  | [] => 0
  | d :: r => uptoBulk d + uptoBulkAll r
def uptoBulkEntries {H : Type} : List (Lit × DataW H) → Nat
  | [] => 0
  | x :: r => uptoBulkEntry x + uptoBulkEntries r
def uptoBulkEntry {H : Type} : Lit × DataW H → Nat
  | (.string bytes, d) => bytes.length + uptoBulk d + 1
  | (_, d) => uptoBulk d + 1
 end
def uptoSmall : (H : Type) → List (DataW H) → Bool := fun _ ds => decide (uptoBulkAll ds ≤ 1048576)
def OpenSpec.upto (s : _root_.Go.ChangeSpec) : _root_.Go.OpenSpec := { _root_.Go.OpenSpec.ofChange s with cond := some uptoSmall }

/-- 'laws.FnFavourOf', WHERE WHAT IT READS IS OF BULK AT MOST 1048576: true; the input reads as it did. -/
def fnFavourOfUptoRow : OpenClaim := { program := "ytfnpkfplmcgnbaa", sum := "857f857e301fbb1768c2658dc89d1ff2861660a6cd889e6fa0bd5e1bb8724280", func := "loop.example/strategiesthatspread/laws.FnFavourOf", spec := "fnFavourOf", unfollowed := true, recurses := true, apart := false, narrowed := true }
def FnFavourOfUptoSaid : Prop := fnFavourOfUptoRow.holds Try.pinned (OpenSpec.upto fnFavourOfSpec)

/-- 'laws.FnOddsOf', WHERE WHAT IT READS IS OF BULK AT MOST 1048576: true; the input reads as it did. -/
def fnOddsOfUptoRow : OpenClaim := { program := "ytfnpkfplmcgnbaa", sum := "857f857e301fbb1768c2658dc89d1ff2861660a6cd889e6fa0bd5e1bb8724280", func := "loop.example/strategiesthatspread/laws.FnOddsOf", spec := "fnOddsOf", unfollowed := true, recurses := true, apart := false, narrowed := true }
def FnOddsOfUptoSaid : Prop := fnOddsOfUptoRow.holds Try.pinned (OpenSpec.upto fnOddsOfSpec)

/-- 'laws.FnSameIsChance', WHERE WHAT IT READS IS OF BULK AT MOST 1048576: true; the input reads as it did. -/
def fnSameIsChanceUptoRow : OpenClaim := { program := "ytfnpkfplmcgnbaa", sum := "857f857e301fbb1768c2658dc89d1ff2861660a6cd889e6fa0bd5e1bb8724280", func := "loop.example/strategiesthatspread/laws.FnSameIsChance", spec := "fnSameIsChance", unfollowed := true, recurses := true, apart := false, narrowed := true }
def FnSameIsChanceUptoSaid : Prop := fnSameIsChanceUptoRow.holds Try.pinned (OpenSpec.upto fnSameIsChanceSpec)

/-- 'laws.FnMoreIsSurer', WHERE WHAT IT READS IS OF BULK AT MOST 1048576: true; the input reads as it did. -/
def fnMoreIsSurerUptoRow : OpenClaim := { program := "ytfnpkfplmcgnbaa", sum := "857f857e301fbb1768c2658dc89d1ff2861660a6cd889e6fa0bd5e1bb8724280", func := "loop.example/strategiesthatspread/laws.FnMoreIsSurer", spec := "fnMoreIsSurer", unfollowed := true, recurses := true, apart := false, narrowed := true }
def FnMoreIsSurerUptoSaid : Prop := fnMoreIsSurerUptoRow.holds Try.pinned (OpenSpec.upto fnMoreIsSurerSpec)

/-- 'laws.FnLeftOver', WHERE WHAT IT READS IS OF BULK AT MOST 1048576: true; the input reads as it did. -/
def fnLeftOverUptoRow : OpenClaim := { program := "ytfnpkfplmcgnbaa", sum := "857f857e301fbb1768c2658dc89d1ff2861660a6cd889e6fa0bd5e1bb8724280", func := "loop.example/strategiesthatspread/laws.FnLeftOver", spec := "fnLeftOver", apart := false, narrowed := true }
def FnLeftOverUptoSaid : Prop := fnLeftOverUptoRow.holds Try.pinned (OpenSpec.upto fnLeftOverSpec)

/-- 'laws.FnExactLeftOver', WHERE WHAT IT READS IS OF BULK AT MOST 1048576: true; the input reads as it did. -/
def fnExactLeftOverUptoRow : OpenClaim := { program := "ytfnpkfplmcgnbaa", sum := "857f857e301fbb1768c2658dc89d1ff2861660a6cd889e6fa0bd5e1bb8724280", func := "loop.example/strategiesthatspread/laws.FnExactLeftOver", spec := "fnExactLeftOver", apart := false, narrowed := true }
def FnExactLeftOverUptoSaid : Prop := fnExactLeftOverUptoRow.holds Try.pinned (OpenSpec.upto fnExactLeftOverSpec)

/-- 'laws.FnExactPotentialOf', WHERE WHAT IT READS IS OF BULK AT MOST 1048576: true; the input reads as it did. -/
def fnExactPotentialOfUptoRow : OpenClaim := { program := "ytfnpkfplmcgnbaa", sum := "857f857e301fbb1768c2658dc89d1ff2861660a6cd889e6fa0bd5e1bb8724280", func := "loop.example/strategiesthatspread/laws.FnExactPotentialOf", spec := "fnExactPotentialOf", apart := false, narrowed := true }
def FnExactPotentialOfUptoSaid : Prop := fnExactPotentialOfUptoRow.holds Try.pinned (OpenSpec.upto fnExactPotentialOfSpec)

/-- 'laws.FnEvenHasPotential', WHERE WHAT IT READS IS OF BULK AT MOST 1048576: true; the input reads as it did. -/
def fnEvenHasPotentialUptoRow : OpenClaim := { program := "ytfnpkfplmcgnbaa", sum := "857f857e301fbb1768c2658dc89d1ff2861660a6cd889e6fa0bd5e1bb8724280", func := "loop.example/strategiesthatspread/laws.FnEvenHasPotential", spec := "fnEvenHasPotential", apart := false, narrowed := true }
def FnEvenHasPotentialUptoSaid : Prop := fnEvenHasPotentialUptoRow.holds Try.pinned (OpenSpec.upto fnEvenHasPotentialSpec)

end Rows
end Go.Proofs.Ytfnpkfplmcgnbaa
