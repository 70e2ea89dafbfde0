/-
  No cell of these rows narrows 'for every input' (looked for: loops, veiled, ifaces, maps, wideKeys, modest, calm, conditions, laid).
  DERIVED. THE GIVEN ROWS OF THIS SEAT. 10 by the template 'for every input the law returns true; each argument reads behind the call as it read before'; 0 by the template 'total and deterministic' (their statements: YtpchnoalamdhkaaTotals.lean).
  GIVEN WITH THE SEED: the statements are not yours to turn. If you find one false, say at which input.
  Laid BY PROGRAM, IN A SANDBOX (cutbox-rows.mjs): the forced cells as the released guide's own fill.sh prints them over the translation 76a23b220a6bac20… (all of the seat's roots in one cut). By AI agents, Wed Nov 11 2026. No macro, syntax, notation, axiom, sorry.
-/
import Derived.Test.YtpchnoalamdhkaaChecked
import GoSem.Claim
import GoSem.ClaimJoined
import GoSem.ClaimMapViews
import Derived.JoinedTies
import Derived.KernelRfl
namespace Go.Proofs.Ytpchnoalamdhkaa
/- THE CELL 'sum', in the pinned program and in every row, IS THE sha256 OF THE DUMP (.gsa) THAT YtpchnoalamdhkaaProg.lean LOADS. Nothing in Lean hashes anything: it is a label: what it is worth is what the hold of that sum in a sandbox is worth. -/
noncomputable def Try.pinned : Pinned := { name := "ytpchnoalamdhkaa", sum := "76a23b220a6bac208fa94657f652541bf9f902752ed7fd87f02f2003f35ba44a", checked := Try.checked }
namespace Rows
def none {H : Type} : Left H := { results := [], args := [] }

/-- 'laws.FnLeftOver': WHATEVER THE INPUT: true; the input reads as it did. -/
def fnLeftOverSpec : ChangeSpec := { name := "fnLeftOver", fn := fun _ => fun
  | [d] => { results := [.lit (.bool true)], args := [d] }
  | _ => none }
def fnLeftOverRow : OpenClaim := { program := "ytpchnoalamdhkaa", sum := "76a23b220a6bac208fa94657f652541bf9f902752ed7fd87f02f2003f35ba44a", func := "loop.example/strategiesthatspread/laws.FnLeftOver", spec := "fnLeftOver", apart := false }
def FnLeftOverSaid : Prop := fnLeftOverRow.holds Try.pinned (OpenSpec.ofChange fnLeftOverSpec)

/-- ITS FALSE NEIGHBOUR: 'it returns false'. Refute it at one input. -/
def fnLeftOverWrong : ChangeSpec := { name := "fnLeftOver", fn := fun _ => fun
  | [d] => { results := [.lit (.bool false)], args := [d] }
  | _ => none }
def FnLeftOverWrongFalsely : Prop := fnLeftOverRow.holds Try.pinned (OpenSpec.ofChange fnLeftOverWrong)

/-- 'laws.FnFixedOnes': WHATEVER THE INPUT: true; the input reads as it did. -/
def fnFixedOnesSpec : ChangeSpec := { name := "fnFixedOnes", fn := fun _ => fun
  | [d] => { results := [.lit (.bool true)], args := [d] }
  | _ => none }
def fnFixedOnesRow : OpenClaim := { program := "ytpchnoalamdhkaa", sum := "76a23b220a6bac208fa94657f652541bf9f902752ed7fd87f02f2003f35ba44a", func := "loop.example/strategiesthatspread/laws.FnFixedOnes", spec := "fnFixedOnes", unfollowed := true, recurses := true, apart := false }
def FnFixedOnesSaid : Prop := fnFixedOnesRow.holds Try.pinned (OpenSpec.ofChange fnFixedOnesSpec)

/-- ITS FALSE NEIGHBOUR: 'it returns false'. Refute it at one input. -/
def fnFixedOnesWrong : ChangeSpec := { name := "fnFixedOnes", fn := fun _ => fun
  | [d] => { results := [.lit (.bool false)], args := [d] }
  | _ => none }
def FnFixedOnesWrongFalsely : Prop := fnFixedOnesRow.holds Try.pinned (OpenSpec.ofChange fnFixedOnesWrong)

/-- 'laws.FnOddsOf': WHATEVER THE INPUT: true; the input reads as it did. -/
def fnOddsOfSpec : ChangeSpec := { name := "fnOddsOf", fn := fun _ => fun
  | [d] => { results := [.lit (.bool true)], args := [d] }
  | _ => none }
def fnOddsOfRow : OpenClaim := { program := "ytpchnoalamdhkaa", sum := "76a23b220a6bac208fa94657f652541bf9f902752ed7fd87f02f2003f35ba44a", func := "loop.example/strategiesthatspread/laws.FnOddsOf", spec := "fnOddsOf", unfollowed := true, recurses := true, apart := false }
def FnOddsOfSaid : Prop := fnOddsOfRow.holds Try.pinned (OpenSpec.ofChange fnOddsOfSpec)

/-- ITS FALSE NEIGHBOUR: 'it returns false'. Refute it at one input. -/
def fnOddsOfWrong : ChangeSpec := { name := "fnOddsOf", fn := fun _ => fun
  | [d] => { results := [.lit (.bool false)], args := [d] }
  | _ => none }
def FnOddsOfWrongFalsely : Prop := fnOddsOfRow.holds Try.pinned (OpenSpec.ofChange fnOddsOfWrong)

/-- 'laws.FnKindsByProduct': WHATEVER THE INPUT: true; the input reads as it did. -/
def fnKindsByProductSpec : ChangeSpec := { name := "fnKindsByProduct", fn := fun _ => fun
  | [d] => { results := [.lit (.bool true)], args := [d] }
  | _ => none }
def fnKindsByProductRow : OpenClaim := { program := "ytpchnoalamdhkaa", sum := "76a23b220a6bac208fa94657f652541bf9f902752ed7fd87f02f2003f35ba44a", func := "loop.example/strategiesthatspread/laws.FnKindsByProduct", spec := "fnKindsByProduct", inPlace := ["maps.clone"], recurses := true, apart := false }
def FnKindsByProductSaid : Prop := fnKindsByProductRow.holds Try.pinned (OpenSpec.ofChange fnKindsByProductSpec)

/-- ITS FALSE NEIGHBOUR: 'it returns false'. Refute it at one input. -/
def fnKindsByProductWrong : ChangeSpec := { name := "fnKindsByProduct", fn := fun _ => fun
  | [d] => { results := [.lit (.bool false)], args := [d] }
  | _ => none }
def FnKindsByProductWrongFalsely : Prop := fnKindsByProductRow.holds Try.pinned (OpenSpec.ofChange fnKindsByProductWrong)

/-- 'laws.FnKindsByUrn': WHATEVER THE INPUT: true; the input reads as it did. -/
def fnKindsByUrnSpec : ChangeSpec := { name := "fnKindsByUrn", fn := fun _ => fun
  | [d] => { results := [.lit (.bool true)], args := [d] }
  | _ => none }
def fnKindsByUrnRow : OpenClaim := { program := "ytpchnoalamdhkaa", sum := "76a23b220a6bac208fa94657f652541bf9f902752ed7fd87f02f2003f35ba44a", func := "loop.example/strategiesthatspread/laws.FnKindsByUrn", spec := "fnKindsByUrn", inPlace := ["maps.clone"], recurses := true, apart := false }
def FnKindsByUrnSaid : Prop := fnKindsByUrnRow.holds Try.pinned (OpenSpec.ofChange fnKindsByUrnSpec)

/-- ITS FALSE NEIGHBOUR: 'it returns false'. Refute it at one input. -/
def fnKindsByUrnWrong : ChangeSpec := { name := "fnKindsByUrn", fn := fun _ => fun
  | [d] => { results := [.lit (.bool false)], args := [d] }
  | _ => none }
def FnKindsByUrnWrongFalsely : Prop := fnKindsByUrnRow.holds Try.pinned (OpenSpec.ofChange fnKindsByUrnWrong)

/-- 'laws.FnEvenHasPotential': WHATEVER THE INPUT: true; the input reads as it did. -/
def fnEvenHasPotentialSpec : ChangeSpec := { name := "fnEvenHasPotential", fn := fun _ => fun
  | [d] => { results := [.lit (.bool true)], args := [d] }
  | _ => none }
def fnEvenHasPotentialRow : OpenClaim := { program := "ytpchnoalamdhkaa", sum := "76a23b220a6bac208fa94657f652541bf9f902752ed7fd87f02f2003f35ba44a", func := "loop.example/strategiesthatspread/laws.FnEvenHasPotential", spec := "fnEvenHasPotential", apart := false }
def FnEvenHasPotentialSaid : Prop := fnEvenHasPotentialRow.holds Try.pinned (OpenSpec.ofChange fnEvenHasPotentialSpec)

/-- ITS FALSE NEIGHBOUR: 'it returns false'. Refute it at one input. -/
def fnEvenHasPotentialWrong : ChangeSpec := { name := "fnEvenHasPotential", fn := fun _ => fun
  | [d] => { results := [.lit (.bool false)], args := [d] }
  | _ => none }
def FnEvenHasPotentialWrongFalsely : Prop := fnEvenHasPotentialRow.holds Try.pinned (OpenSpec.ofChange fnEvenHasPotentialWrong)

/-- 'laws.FnTwoAreAlike': WHATEVER THE INPUT: true; the input reads as it did. -/
def fnTwoAreAlikeSpec : ChangeSpec := { name := "fnTwoAreAlike", fn := fun _ => fun
  | [d] => { results := [.lit (.bool true)], args := [d] }
  | _ => none }
def fnTwoAreAlikeRow : OpenClaim := { program := "ytpchnoalamdhkaa", sum := "76a23b220a6bac208fa94657f652541bf9f902752ed7fd87f02f2003f35ba44a", func := "loop.example/strategiesthatspread/laws.FnTwoAreAlike", spec := "fnTwoAreAlike", recurses := true, apart := false }
def FnTwoAreAlikeSaid : Prop := fnTwoAreAlikeRow.holds Try.pinned (OpenSpec.ofChange fnTwoAreAlikeSpec)

/-- ITS FALSE NEIGHBOUR: 'it returns false'. Refute it at one input. -/
def fnTwoAreAlikeWrong : ChangeSpec := { name := "fnTwoAreAlike", fn := fun _ => fun
  | [d] => { results := [.lit (.bool false)], args := [d] }
  | _ => none }
def FnTwoAreAlikeWrongFalsely : Prop := fnTwoAreAlikeRow.holds Try.pinned (OpenSpec.ofChange fnTwoAreAlikeWrong)

/-- 'laws.FnOneLessIsTheSame': WHATEVER THE INPUT: true; the input reads as it did. -/
def fnOneLessIsTheSameSpec : ChangeSpec := { name := "fnOneLessIsTheSame", fn := fun _ => fun
  | [d] => { results := [.lit (.bool true)], args := [d] }
  | _ => none }
def fnOneLessIsTheSameRow : OpenClaim := { program := "ytpchnoalamdhkaa", sum := "76a23b220a6bac208fa94657f652541bf9f902752ed7fd87f02f2003f35ba44a", func := "loop.example/strategiesthatspread/laws.FnOneLessIsTheSame", spec := "fnOneLessIsTheSame", recurses := true, apart := false }
def FnOneLessIsTheSameSaid : Prop := fnOneLessIsTheSameRow.holds Try.pinned (OpenSpec.ofChange fnOneLessIsTheSameSpec)

/-- ITS FALSE NEIGHBOUR: 'it returns false'. Refute it at one input. -/
def fnOneLessIsTheSameWrong : ChangeSpec := { name := "fnOneLessIsTheSame", fn := fun _ => fun
  | [d] => { results := [.lit (.bool false)], args := [d] }
  | _ => none }
def FnOneLessIsTheSameWrongFalsely : Prop := fnOneLessIsTheSameRow.holds Try.pinned (OpenSpec.ofChange fnOneLessIsTheSameWrong)

/-- 'laws.FnExactLeftOver': WHATEVER THE INPUT: true; the input reads as it did. -/
def fnExactLeftOverSpec : ChangeSpec := { name := "fnExactLeftOver", fn := fun _ => fun
  | [d] => { results := [.lit (.bool true)], args := [d] }
  | _ => none }
def fnExactLeftOverRow : OpenClaim := { program := "ytpchnoalamdhkaa", sum := "76a23b220a6bac208fa94657f652541bf9f902752ed7fd87f02f2003f35ba44a", func := "loop.example/strategiesthatspread/laws.FnExactLeftOver", spec := "fnExactLeftOver", apart := false }
def FnExactLeftOverSaid : Prop := fnExactLeftOverRow.holds Try.pinned (OpenSpec.ofChange fnExactLeftOverSpec)

/-- ITS FALSE NEIGHBOUR: 'it returns false'. Refute it at one input. -/
def fnExactLeftOverWrong : ChangeSpec := { name := "fnExactLeftOver", fn := fun _ => fun
  | [d] => { results := [.lit (.bool false)], args := [d] }
  | _ => none }
def FnExactLeftOverWrongFalsely : Prop := fnExactLeftOverRow.holds Try.pinned (OpenSpec.ofChange fnExactLeftOverWrong)

/-- 'laws.FnExactPotentialOf': WHATEVER THE INPUT: true; the input reads as it did. -/
def fnExactPotentialOfSpec : ChangeSpec := { name := "fnExactPotentialOf", fn := fun _ => fun
  | [d] => { results := [.lit (.bool true)], args := [d] }
  | _ => none }
def fnExactPotentialOfRow : OpenClaim := { program := "ytpchnoalamdhkaa", sum := "76a23b220a6bac208fa94657f652541bf9f902752ed7fd87f02f2003f35ba44a", func := "loop.example/strategiesthatspread/laws.FnExactPotentialOf", spec := "fnExactPotentialOf", apart := false }
def FnExactPotentialOfSaid : Prop := fnExactPotentialOfRow.holds Try.pinned (OpenSpec.ofChange fnExactPotentialOfSpec)

/-- ITS FALSE NEIGHBOUR: 'it returns false'. Refute it at one input. -/
def fnExactPotentialOfWrong : ChangeSpec := { name := "fnExactPotentialOf", fn := fun _ => fun
  | [d] => { results := [.lit (.bool false)], args := [d] }
  | _ => none }
def FnExactPotentialOfWrongFalsely : Prop := fnExactPotentialOfRow.holds Try.pinned (OpenSpec.ofChange fnExactPotentialOfWrong)

/- THE SECOND FORM. 'bulk': how many values and letters a reading holds, each counted each time it is reached (what is shared counts as often as it is met; a slice's spare places count too). A statement '..UptoSaid' is the law's where the arguments, and the package variables that the reading takes, are together of bulk at most 1048576: NARROWER than '..Said'. Prove '..Said' where nothing that the law and all that it calls make is longer than what came in: it says more and counts as full. Else prove '..UptoSaid'. A law counts once. -/
mutual
def uptoBulk {H : Type} : DataW H → Nat
  | .lit (.string bytes) => bytes.length + 1
  | .lit _ => 1
  | .nil => 1
  | .ptr d => uptoBulk d + 1
  | .slice elems spare => uptoBulkAll elems + uptoBulkAll spare + 1
  | .agg parts => uptoBulkAll parts + 1
  | .iface _ d => uptoBulk d + 1
  | .map entries => uptoBulkEntries entries + 1
  | .held _ => 1
def uptoBulkAll {H : Type} : List (DataW H) → Nat
  | [] => 0
  | d :: r => uptoBulk d + uptoBulkAll r
def uptoBulkEntries {H : Type} : List (Lit × DataW H) → Nat
  | [] => 0
  | x :: r => uptoBulkEntry x + uptoBulkEntries r
def uptoBulkEntry {H : Type} : Lit × DataW H → Nat
  | (.string bytes, d) => bytes.length + uptoBulk d + 1
  | (_, d) => uptoBulk d + 1
 end
def uptoSmall : (H : Type) → List (DataW H) → Bool := fun _ ds => decide (uptoBulkAll ds ≤ 1048576)
def OpenSpec.upto (s : _root_.Go.ChangeSpec) : _root_.Go.OpenSpec := { _root_.Go.OpenSpec.ofChange s with cond := some uptoSmall }

/-- 'laws.FnLeftOver', WHERE WHAT IT READS IS OF BULK AT MOST 1048576: true; the input reads as it did. -/
def fnLeftOverUptoRow : OpenClaim := { program := "ytpchnoalamdhkaa", sum := "76a23b220a6bac208fa94657f652541bf9f902752ed7fd87f02f2003f35ba44a", func := "loop.example/strategiesthatspread/laws.FnLeftOver", spec := "fnLeftOver", apart := false, narrowed := true }
def FnLeftOverUptoSaid : Prop := fnLeftOverUptoRow.holds Try.pinned (OpenSpec.upto fnLeftOverSpec)

/-- 'laws.FnFixedOnes', WHERE WHAT IT READS IS OF BULK AT MOST 1048576: true; the input reads as it did. -/
def fnFixedOnesUptoRow : OpenClaim := { program := "ytpchnoalamdhkaa", sum := "76a23b220a6bac208fa94657f652541bf9f902752ed7fd87f02f2003f35ba44a", func := "loop.example/strategiesthatspread/laws.FnFixedOnes", spec := "fnFixedOnes", unfollowed := true, recurses := true, apart := false, narrowed := true }
def FnFixedOnesUptoSaid : Prop := fnFixedOnesUptoRow.holds Try.pinned (OpenSpec.upto fnFixedOnesSpec)

/-- 'laws.FnOddsOf', WHERE WHAT IT READS IS OF BULK AT MOST 1048576: true; the input reads as it did. -/
def fnOddsOfUptoRow : OpenClaim := { program := "ytpchnoalamdhkaa", sum := "76a23b220a6bac208fa94657f652541bf9f902752ed7fd87f02f2003f35ba44a", func := "loop.example/strategiesthatspread/laws.FnOddsOf", spec := "fnOddsOf", unfollowed := true, recurses := true, apart := false, narrowed := true }
def FnOddsOfUptoSaid : Prop := fnOddsOfUptoRow.holds Try.pinned (OpenSpec.upto fnOddsOfSpec)

/-- 'laws.FnKindsByProduct', WHERE WHAT IT READS IS OF BULK AT MOST 1048576: true; the input reads as it did. -/
def fnKindsByProductUptoRow : OpenClaim := { program := "ytpchnoalamdhkaa", sum := "76a23b220a6bac208fa94657f652541bf9f902752ed7fd87f02f2003f35ba44a", func := "loop.example/strategiesthatspread/laws.FnKindsByProduct", spec := "fnKindsByProduct", inPlace := ["maps.clone"], recurses := true, apart := false, narrowed := true }
def FnKindsByProductUptoSaid : Prop := fnKindsByProductUptoRow.holds Try.pinned (OpenSpec.upto fnKindsByProductSpec)

/-- 'laws.FnKindsByUrn', WHERE WHAT IT READS IS OF BULK AT MOST 1048576: true; the input reads as it did. -/
def fnKindsByUrnUptoRow : OpenClaim := { program := "ytpchnoalamdhkaa", sum := "76a23b220a6bac208fa94657f652541bf9f902752ed7fd87f02f2003f35ba44a", func := "loop.example/strategiesthatspread/laws.FnKindsByUrn", spec := "fnKindsByUrn", inPlace := ["maps.clone"], recurses := true, apart := false, narrowed := true }
def FnKindsByUrnUptoSaid : Prop := fnKindsByUrnUptoRow.holds Try.pinned (OpenSpec.upto fnKindsByUrnSpec)

/-- 'laws.FnEvenHasPotential', WHERE WHAT IT READS IS OF BULK AT MOST 1048576: true; the input reads as it did. -/
def fnEvenHasPotentialUptoRow : OpenClaim := { program := "ytpchnoalamdhkaa", sum := "76a23b220a6bac208fa94657f652541bf9f902752ed7fd87f02f2003f35ba44a", func := "loop.example/strategiesthatspread/laws.FnEvenHasPotential", spec := "fnEvenHasPotential", apart := false, narrowed := true }
def FnEvenHasPotentialUptoSaid : Prop := fnEvenHasPotentialUptoRow.holds Try.pinned (OpenSpec.upto fnEvenHasPotentialSpec)

/-- 'laws.FnTwoAreAlike', WHERE WHAT IT READS IS OF BULK AT MOST 1048576: true; the input reads as it did. -/
def fnTwoAreAlikeUptoRow : OpenClaim := { program := "ytpchnoalamdhkaa", sum := "76a23b220a6bac208fa94657f652541bf9f902752ed7fd87f02f2003f35ba44a", func := "loop.example/strategiesthatspread/laws.FnTwoAreAlike", spec := "fnTwoAreAlike", recurses := true, apart := false, narrowed := true }
def FnTwoAreAlikeUptoSaid : Prop := fnTwoAreAlikeUptoRow.holds Try.pinned (OpenSpec.upto fnTwoAreAlikeSpec)

/-- 'laws.FnOneLessIsTheSame', WHERE WHAT IT READS IS OF BULK AT MOST 1048576: true; the input reads as it did. -/
def fnOneLessIsTheSameUptoRow : OpenClaim := { program := "ytpchnoalamdhkaa", sum := "76a23b220a6bac208fa94657f652541bf9f902752ed7fd87f02f2003f35ba44a", func := "loop.example/strategiesthatspread/laws.FnOneLessIsTheSame", spec := "fnOneLessIsTheSame", recurses := true, apart := false, narrowed := true }
def FnOneLessIsTheSameUptoSaid : Prop := fnOneLessIsTheSameUptoRow.holds Try.pinned (OpenSpec.upto fnOneLessIsTheSameSpec)

/-- 'laws.FnExactLeftOver', WHERE WHAT IT READS IS OF BULK AT MOST 1048576: true; the input reads as it did. -/
def fnExactLeftOverUptoRow : OpenClaim := { program := "ytpchnoalamdhkaa", sum := "76a23b220a6bac208fa94657f652541bf9f902752ed7fd87f02f2003f35ba44a", func := "loop.example/strategiesthatspread/laws.FnExactLeftOver", spec := "fnExactLeftOver", apart := false, narrowed := true }
def FnExactLeftOverUptoSaid : Prop := fnExactLeftOverUptoRow.holds Try.pinned (OpenSpec.upto fnExactLeftOverSpec)

/-- 'laws.FnExactPotentialOf', WHERE WHAT IT READS IS OF BULK AT MOST 1048576: true; the input reads as it did. -/
def fnExactPotentialOfUptoRow : OpenClaim := { program := "ytpchnoalamdhkaa", sum := "76a23b220a6bac208fa94657f652541bf9f902752ed7fd87f02f2003f35ba44a", func := "loop.example/strategiesthatspread/laws.FnExactPotentialOf", spec := "fnExactPotentialOf", apart := false, narrowed := true }
def FnExactPotentialOfUptoSaid : Prop := fnExactPotentialOfUptoRow.holds Try.pinned (OpenSpec.upto fnExactPotentialOfSpec)

end Rows
end Go.Proofs.Ytpchnoalamdhkaa
