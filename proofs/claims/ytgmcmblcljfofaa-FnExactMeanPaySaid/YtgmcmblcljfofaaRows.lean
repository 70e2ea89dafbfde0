/-
  No cell of these rows narrows 'for every input' (looked for: loops, veiled, ifaces, maps, wideKeys, modest, calm, conditions, laid).
  DERIVED. THE GIVEN ROWS OF THIS SEAT. 10 by the template 'for every input the law returns true; each argument reads behind the call as it read before'; 0 by the template 'total and deterministic' (their statements: YtgmcmblcljfofaaTotals.lean).
  GIVEN WITH THE SEED: the statements are not yours to turn. If you find one false, say at which input.
  Laid BY PROGRAM, IN A SANDBOX (cutbox-rows.mjs): the forced cells as the released guide's own fill.sh prints them over the translation 4bd3e11eba6cdb57… (all of the seat's roots in one cut). By AI agents, Wed Nov 11 2026. No macro, syntax, notation, axiom, sorry.
-/
import Derived.Test.YtgmcmblcljfofaaChecked
import GoSem.Claim
import GoSem.ClaimJoined
import GoSem.ClaimMapViews
import Derived.JoinedTies
import Derived.KernelRfl
namespace Go.Proofs.Ytgmcmblcljfofaa
/- THE CELL 'sum', in the pinned program and in every row, IS THE sha256 OF THE DUMP (.gsa) THAT YtgmcmblcljfofaaProg.lean LOADS. Nothing in Lean hashes anything: it is a label: what it is worth is what the hold of that sum in a sandbox is worth. -/
noncomputable def Try.pinned : Pinned := { name := "ytgmcmblcljfofaa", sum := "4bd3e11eba6cdb5700ba44ded5a7564836179a35aa2f6ee876c2727eaef16c43", checked := Try.checked }
namespace Rows
def none {H : Type} : Left H := { results := [], args := [] }

/-- 'laws.FnExactValidSquare': WHATEVER THE INPUT: true; the input reads as it did. -/
def fnExactValidSquareSpec : ChangeSpec := { name := "fnExactValidSquare", fn := fun _ => fun
  | [d] => { results := [.lit (.bool true)], args := [d] }
  | _ => none }
def fnExactValidSquareRow : OpenClaim := { program := "ytgmcmblcljfofaa", sum := "4bd3e11eba6cdb5700ba44ded5a7564836179a35aa2f6ee876c2727eaef16c43", func := "loop.example/strategiesthatspread/laws.FnExactValidSquare", spec := "fnExactValidSquare", apart := false }
def FnExactValidSquareSaid : Prop := fnExactValidSquareRow.holds Try.pinned (OpenSpec.ofChange fnExactValidSquareSpec)

/-- ITS FALSE NEIGHBOUR: 'it returns false'. Refute it at one input. -/
def fnExactValidSquareWrong : ChangeSpec := { name := "fnExactValidSquare", fn := fun _ => fun
  | [d] => { results := [.lit (.bool false)], args := [d] }
  | _ => none }
def FnExactValidSquareWrongFalsely : Prop := fnExactValidSquareRow.holds Try.pinned (OpenSpec.ofChange fnExactValidSquareWrong)

/-- 'laws.FnExactStableOf': WHATEVER THE INPUT: true; the input reads as it did. -/
def fnExactStableOfSpec : ChangeSpec := { name := "fnExactStableOf", fn := fun _ => fun
  | [d] => { results := [.lit (.bool true)], args := [d] }
  | _ => none }
def fnExactStableOfRow : OpenClaim := { program := "ytgmcmblcljfofaa", sum := "4bd3e11eba6cdb5700ba44ded5a7564836179a35aa2f6ee876c2727eaef16c43", func := "loop.example/strategiesthatspread/laws.FnExactStableOf", spec := "fnExactStableOf", unfollowed := true, recurses := true, apart := false }
def FnExactStableOfSaid : Prop := fnExactStableOfRow.holds Try.pinned (OpenSpec.ofChange fnExactStableOfSpec)

/-- ITS FALSE NEIGHBOUR: 'it returns false'. Refute it at one input. -/
def fnExactStableOfWrong : ChangeSpec := { name := "fnExactStableOf", fn := fun _ => fun
  | [d] => { results := [.lit (.bool false)], args := [d] }
  | _ => none }
def FnExactStableOfWrongFalsely : Prop := fnExactStableOfRow.holds Try.pinned (OpenSpec.ofChange fnExactStableOfWrong)

/-- 'laws.FnExactBarrierOf': WHATEVER THE INPUT: true; the input reads as it did. -/
def fnExactBarrierOfSpec : ChangeSpec := { name := "fnExactBarrierOf", fn := fun _ => fun
  | [d1, d2, d3] => { results := [.lit (.bool true)], args := [d1, d2, d3] }
  | _ => none }
def fnExactBarrierOfRow : OpenClaim := { program := "ytgmcmblcljfofaa", sum := "4bd3e11eba6cdb5700ba44ded5a7564836179a35aa2f6ee876c2727eaef16c43", func := "loop.example/strategiesthatspread/laws.FnExactBarrierOf", spec := "fnExactBarrierOf", unfollowed := true, recurses := true, apart := false }
def FnExactBarrierOfSaid : Prop := fnExactBarrierOfRow.holds Try.pinned (OpenSpec.ofChange fnExactBarrierOfSpec)

/-- ITS FALSE NEIGHBOUR: 'it returns false'. Refute it at one input. -/
def fnExactBarrierOfWrong : ChangeSpec := { name := "fnExactBarrierOf", fn := fun _ => fun
  | [d1, d2, d3] => { results := [.lit (.bool false)], args := [d1, d2, d3] }
  | _ => none }
def FnExactBarrierOfWrongFalsely : Prop := fnExactBarrierOfRow.holds Try.pinned (OpenSpec.ofChange fnExactBarrierOfWrong)

/-- 'laws.FnExactIsRest': WHATEVER THE INPUT: true; the input reads as it did. -/
def fnExactIsRestSpec : ChangeSpec := { name := "fnExactIsRest", fn := fun _ => fun
  | [d1, d2] => { results := [.lit (.bool true)], args := [d1, d2] }
  | _ => none }
def fnExactIsRestRow : OpenClaim := { program := "ytgmcmblcljfofaa", sum := "4bd3e11eba6cdb5700ba44ded5a7564836179a35aa2f6ee876c2727eaef16c43", func := "loop.example/strategiesthatspread/laws.FnExactIsRest", spec := "fnExactIsRest", unfollowed := true, recurses := true, apart := false }
def FnExactIsRestSaid : Prop := fnExactIsRestRow.holds Try.pinned (OpenSpec.ofChange fnExactIsRestSpec)

/-- ITS FALSE NEIGHBOUR: 'it returns false'. Refute it at one input. -/
def fnExactIsRestWrong : ChangeSpec := { name := "fnExactIsRest", fn := fun _ => fun
  | [d1, d2] => { results := [.lit (.bool false)], args := [d1, d2] }
  | _ => none }
def FnExactIsRestWrongFalsely : Prop := fnExactIsRestRow.holds Try.pinned (OpenSpec.ofChange fnExactIsRestWrong)

/-- 'laws.FnExactRestsOn': WHATEVER THE INPUT: true; the input reads as it did. -/
def fnExactRestsOnSpec : ChangeSpec := { name := "fnExactRestsOn", fn := fun _ => fun
  | [d] => { results := [.lit (.bool true)], args := [d] }
  | _ => none }
def fnExactRestsOnRow : OpenClaim := { program := "ytgmcmblcljfofaa", sum := "4bd3e11eba6cdb5700ba44ded5a7564836179a35aa2f6ee876c2727eaef16c43", func := "loop.example/strategiesthatspread/laws.FnExactRestsOn", spec := "fnExactRestsOn", unfollowed := true, recurses := true, apart := false }
def FnExactRestsOnSaid : Prop := fnExactRestsOnRow.holds Try.pinned (OpenSpec.ofChange fnExactRestsOnSpec)

/-- ITS FALSE NEIGHBOUR: 'it returns false'. Refute it at one input. -/
def fnExactRestsOnWrong : ChangeSpec := { name := "fnExactRestsOn", fn := fun _ => fun
  | [d] => { results := [.lit (.bool false)], args := [d] }
  | _ => none }
def FnExactRestsOnWrongFalsely : Prop := fnExactRestsOnRow.holds Try.pinned (OpenSpec.ofChange fnExactRestsOnWrong)

/-- 'laws.FnExactValidField': WHATEVER THE INPUT: true; the input reads as it did. -/
def fnExactValidFieldSpec : ChangeSpec := { name := "fnExactValidField", fn := fun _ => fun
  | [d] => { results := [.lit (.bool true)], args := [d] }
  | _ => none }
def fnExactValidFieldRow : OpenClaim := { program := "ytgmcmblcljfofaa", sum := "4bd3e11eba6cdb5700ba44ded5a7564836179a35aa2f6ee876c2727eaef16c43", func := "loop.example/strategiesthatspread/laws.FnExactValidField", spec := "fnExactValidField", apart := false }
def FnExactValidFieldSaid : Prop := fnExactValidFieldRow.holds Try.pinned (OpenSpec.ofChange fnExactValidFieldSpec)

/-- ITS FALSE NEIGHBOUR: 'it returns false'. Refute it at one input. -/
def fnExactValidFieldWrong : ChangeSpec := { name := "fnExactValidField", fn := fun _ => fun
  | [d] => { results := [.lit (.bool false)], args := [d] }
  | _ => none }
def FnExactValidFieldWrongFalsely : Prop := fnExactValidFieldRow.holds Try.pinned (OpenSpec.ofChange fnExactValidFieldWrong)

/-- 'laws.FnExactNextShares': WHATEVER THE INPUT: true; the input reads as it did. -/
def fnExactNextSharesSpec : ChangeSpec := { name := "fnExactNextShares", fn := fun _ => fun
  | [d1, d2] => { results := [.lit (.bool true)], args := [d1, d2] }
  | _ => none }
def fnExactNextSharesRow : OpenClaim := { program := "ytgmcmblcljfofaa", sum := "4bd3e11eba6cdb5700ba44ded5a7564836179a35aa2f6ee876c2727eaef16c43", func := "loop.example/strategiesthatspread/laws.FnExactNextShares", spec := "fnExactNextShares", unfollowed := true, recurses := true, apart := false }
def FnExactNextSharesSaid : Prop := fnExactNextSharesRow.holds Try.pinned (OpenSpec.ofChange fnExactNextSharesSpec)

/-- ITS FALSE NEIGHBOUR: 'it returns false'. Refute it at one input. -/
def fnExactNextSharesWrong : ChangeSpec := { name := "fnExactNextShares", fn := fun _ => fun
  | [d1, d2] => { results := [.lit (.bool false)], args := [d1, d2] }
  | _ => none }
def FnExactNextSharesWrongFalsely : Prop := fnExactNextSharesRow.holds Try.pinned (OpenSpec.ofChange fnExactNextSharesWrong)

/-- 'laws.FnExactMeanPay': WHATEVER THE INPUT: true; the input reads as it did. -/
def fnExactMeanPaySpec : ChangeSpec := { name := "fnExactMeanPay", fn := fun _ => fun
  | [d1, d2] => { results := [.lit (.bool true)], args := [d1, d2] }
  | _ => none }
def fnExactMeanPayRow : OpenClaim := { program := "ytgmcmblcljfofaa", sum := "4bd3e11eba6cdb5700ba44ded5a7564836179a35aa2f6ee876c2727eaef16c43", func := "loop.example/strategiesthatspread/laws.FnExactMeanPay", spec := "fnExactMeanPay", apart := false }
def FnExactMeanPaySaid : Prop := fnExactMeanPayRow.holds Try.pinned (OpenSpec.ofChange fnExactMeanPaySpec)

/-- ITS FALSE NEIGHBOUR: 'it returns false'. Refute it at one input. -/
def fnExactMeanPayWrong : ChangeSpec := { name := "fnExactMeanPay", fn := fun _ => fun
  | [d1, d2] => { results := [.lit (.bool false)], args := [d1, d2] }
  | _ => none }
def FnExactMeanPayWrongFalsely : Prop := fnExactMeanPayRow.holds Try.pinned (OpenSpec.ofChange fnExactMeanPayWrong)

/-- 'laws.FnExactIsEven': WHATEVER THE INPUT: true; the input reads as it did. -/
def fnExactIsEvenSpec : ChangeSpec := { name := "fnExactIsEven", fn := fun _ => fun
  | [d] => { results := [.lit (.bool true)], args := [d] }
  | _ => none }
def fnExactIsEvenRow : OpenClaim := { program := "ytgmcmblcljfofaa", sum := "4bd3e11eba6cdb5700ba44ded5a7564836179a35aa2f6ee876c2727eaef16c43", func := "loop.example/strategiesthatspread/laws.FnExactIsEven", spec := "fnExactIsEven", apart := false }
def FnExactIsEvenSaid : Prop := fnExactIsEvenRow.holds Try.pinned (OpenSpec.ofChange fnExactIsEvenSpec)

/-- ITS FALSE NEIGHBOUR: 'it returns false'. Refute it at one input. -/
def fnExactIsEvenWrong : ChangeSpec := { name := "fnExactIsEven", fn := fun _ => fun
  | [d] => { results := [.lit (.bool false)], args := [d] }
  | _ => none }
def FnExactIsEvenWrongFalsely : Prop := fnExactIsEvenRow.holds Try.pinned (OpenSpec.ofChange fnExactIsEvenWrong)

/-- 'laws.FnExactGrowthOf': WHATEVER THE INPUT: true; the input reads as it did. -/
def fnExactGrowthOfSpec : ChangeSpec := { name := "fnExactGrowthOf", fn := fun _ => fun
  | [d1, d2] => { results := [.lit (.bool true)], args := [d1, d2] }
  | _ => none }
def fnExactGrowthOfRow : OpenClaim := { program := "ytgmcmblcljfofaa", sum := "4bd3e11eba6cdb5700ba44ded5a7564836179a35aa2f6ee876c2727eaef16c43", func := "loop.example/strategiesthatspread/laws.FnExactGrowthOf", spec := "fnExactGrowthOf", apart := false }
def FnExactGrowthOfSaid : Prop := fnExactGrowthOfRow.holds Try.pinned (OpenSpec.ofChange fnExactGrowthOfSpec)

/-- ITS FALSE NEIGHBOUR: 'it returns false'. Refute it at one input. -/
def fnExactGrowthOfWrong : ChangeSpec := { name := "fnExactGrowthOf", fn := fun _ => fun
  | [d1, d2] => { results := [.lit (.bool false)], args := [d1, d2] }
  | _ => none }
def FnExactGrowthOfWrongFalsely : Prop := fnExactGrowthOfRow.holds Try.pinned (OpenSpec.ofChange fnExactGrowthOfWrong)

/- THE SECOND FORM. 'bulk': how many values and letters a reading holds, each counted each time it is reached (what is shared counts as often as it is met; a slice's spare places count too). A statement '..UptoSaid' is the law's where the arguments, and the package variables that the reading takes, are together of bulk at most 1048576: NARROWER than '..Said'. Prove '..Said' where nothing that the law and all that it calls make is longer than what came in: it says more and counts as full. Else prove '..UptoSaid'. A law counts once. -/
mutual
def uptoBulk {H : Type} : DataW H → Nat
  | .lit (.string bytes) => bytes.length + 1
  | .lit _ => 1
  | .nil => 1
  | .ptr d => uptoBulk d + 1
  | .slice elems spare => uptoBulkAll elems + uptoBulkAll spare + 1
  | .agg parts => uptoBulkAll parts + 1
  | .iface _ d => uptoBulk d + 1
  | .map entries => uptoBulkEntries entries + 1
  | .held _ => 1
def uptoBulkAll {H : Type} : List (DataW H) → Nat
  | [] => 0
  | d :: r => uptoBulk d + uptoBulkAll r
def uptoBulkEntries {H : Type} : List (Lit × DataW H) → Nat
  | [] => 0
  | x :: r => uptoBulkEntry x + uptoBulkEntries r
def uptoBulkEntry {H : Type} : Lit × DataW H → Nat
  | (.string bytes, d) => bytes.length + uptoBulk d + 1
  | (_, d) => uptoBulk d + 1
 end
def uptoSmall : (H : Type) → List (DataW H) → Bool := fun _ ds => decide (uptoBulkAll ds ≤ 1048576)
def OpenSpec.upto (s : _root_.Go.ChangeSpec) : _root_.Go.OpenSpec := { _root_.Go.OpenSpec.ofChange s with cond := some uptoSmall }

/-- 'laws.FnExactValidSquare', WHERE WHAT IT READS IS OF BULK AT MOST 1048576: true; the input reads as it did. -/
def fnExactValidSquareUptoRow : OpenClaim := { program := "ytgmcmblcljfofaa", sum := "4bd3e11eba6cdb5700ba44ded5a7564836179a35aa2f6ee876c2727eaef16c43", func := "loop.example/strategiesthatspread/laws.FnExactValidSquare", spec := "fnExactValidSquare", apart := false, narrowed := true }
def FnExactValidSquareUptoSaid : Prop := fnExactValidSquareUptoRow.holds Try.pinned (OpenSpec.upto fnExactValidSquareSpec)

/-- 'laws.FnExactStableOf', WHERE WHAT IT READS IS OF BULK AT MOST 1048576: true; the input reads as it did. -/
def fnExactStableOfUptoRow : OpenClaim := { program := "ytgmcmblcljfofaa", sum := "4bd3e11eba6cdb5700ba44ded5a7564836179a35aa2f6ee876c2727eaef16c43", func := "loop.example/strategiesthatspread/laws.FnExactStableOf", spec := "fnExactStableOf", unfollowed := true, recurses := true, apart := false, narrowed := true }
def FnExactStableOfUptoSaid : Prop := fnExactStableOfUptoRow.holds Try.pinned (OpenSpec.upto fnExactStableOfSpec)

/-- 'laws.FnExactBarrierOf', WHERE WHAT IT READS IS OF BULK AT MOST 1048576: true; the input reads as it did. -/
def fnExactBarrierOfUptoRow : OpenClaim := { program := "ytgmcmblcljfofaa", sum := "4bd3e11eba6cdb5700ba44ded5a7564836179a35aa2f6ee876c2727eaef16c43", func := "loop.example/strategiesthatspread/laws.FnExactBarrierOf", spec := "fnExactBarrierOf", unfollowed := true, recurses := true, apart := false, narrowed := true }
def FnExactBarrierOfUptoSaid : Prop := fnExactBarrierOfUptoRow.holds Try.pinned (OpenSpec.upto fnExactBarrierOfSpec)

/-- 'laws.FnExactIsRest', WHERE WHAT IT READS IS OF BULK AT MOST 1048576: true; the input reads as it did. -/
def fnExactIsRestUptoRow : OpenClaim := { program := "ytgmcmblcljfofaa", sum := "4bd3e11eba6cdb5700ba44ded5a7564836179a35aa2f6ee876c2727eaef16c43", func := "loop.example/strategiesthatspread/laws.FnExactIsRest", spec := "fnExactIsRest", unfollowed := true, recurses := true, apart := false, narrowed := true }
def FnExactIsRestUptoSaid : Prop := fnExactIsRestUptoRow.holds Try.pinned (OpenSpec.upto fnExactIsRestSpec)

/-- 'laws.FnExactRestsOn', WHERE WHAT IT READS IS OF BULK AT MOST 1048576: true; the input reads as it did. -/
def fnExactRestsOnUptoRow : OpenClaim := { program := "ytgmcmblcljfofaa", sum := "4bd3e11eba6cdb5700ba44ded5a7564836179a35aa2f6ee876c2727eaef16c43", func := "loop.example/strategiesthatspread/laws.FnExactRestsOn", spec := "fnExactRestsOn", unfollowed := true, recurses := true, apart := false, narrowed := true }
def FnExactRestsOnUptoSaid : Prop := fnExactRestsOnUptoRow.holds Try.pinned (OpenSpec.upto fnExactRestsOnSpec)

/-- 'laws.FnExactValidField', WHERE WHAT IT READS IS OF BULK AT MOST 1048576: true; the input reads as it did. -/
def fnExactValidFieldUptoRow : OpenClaim := { program := "ytgmcmblcljfofaa", sum := "4bd3e11eba6cdb5700ba44ded5a7564836179a35aa2f6ee876c2727eaef16c43", func := "loop.example/strategiesthatspread/laws.FnExactValidField", spec := "fnExactValidField", apart := false, narrowed := true }
def FnExactValidFieldUptoSaid : Prop := fnExactValidFieldUptoRow.holds Try.pinned (OpenSpec.upto fnExactValidFieldSpec)

/-- 'laws.FnExactNextShares', WHERE WHAT IT READS IS OF BULK AT MOST 1048576: true; the input reads as it did. -/
def fnExactNextSharesUptoRow : OpenClaim := { program := "ytgmcmblcljfofaa", sum := "4bd3e11eba6cdb5700ba44ded5a7564836179a35aa2f6ee876c2727eaef16c43", func := "loop.example/strategiesthatspread/laws.FnExactNextShares", spec := "fnExactNextShares", unfollowed := true, recurses := true, apart := false, narrowed := true }
def FnExactNextSharesUptoSaid : Prop := fnExactNextSharesUptoRow.holds Try.pinned (OpenSpec.upto fnExactNextSharesSpec)

/-- 'laws.FnExactMeanPay', WHERE WHAT IT READS IS OF BULK AT MOST 1048576: true; the input reads as it did. -/
def fnExactMeanPayUptoRow : OpenClaim := { program := "ytgmcmblcljfofaa", sum := "4bd3e11eba6cdb5700ba44ded5a7564836179a35aa2f6ee876c2727eaef16c43", func := "loop.example/strategiesthatspread/laws.FnExactMeanPay", spec := "fnExactMeanPay", apart := false, narrowed := true }
def FnExactMeanPayUptoSaid : Prop := fnExactMeanPayUptoRow.holds Try.pinned (OpenSpec.upto fnExactMeanPaySpec)

/-- 'laws.FnExactIsEven', WHERE WHAT IT READS IS OF BULK AT MOST 1048576: true; the input reads as it did. -/
def fnExactIsEvenUptoRow : OpenClaim := { program := "ytgmcmblcljfofaa", sum := "4bd3e11eba6cdb5700ba44ded5a7564836179a35aa2f6ee876c2727eaef16c43", func := "loop.example/strategiesthatspread/laws.FnExactIsEven", spec := "fnExactIsEven", apart := false, narrowed := true }
def FnExactIsEvenUptoSaid : Prop := fnExactIsEvenUptoRow.holds Try.pinned (OpenSpec.upto fnExactIsEvenSpec)

/-- 'laws.FnExactGrowthOf', WHERE WHAT IT READS IS OF BULK AT MOST 1048576: true; the input reads as it did. -/
def fnExactGrowthOfUptoRow : OpenClaim := { program := "ytgmcmblcljfofaa", sum := "4bd3e11eba6cdb5700ba44ded5a7564836179a35aa2f6ee876c2727eaef16c43", func := "loop.example/strategiesthatspread/laws.FnExactGrowthOf", spec := "fnExactGrowthOf", apart := false, narrowed := true }
def FnExactGrowthOfUptoSaid : Prop := fnExactGrowthOfUptoRow.holds Try.pinned (OpenSpec.upto fnExactGrowthOfSpec)

end Rows
end Go.Proofs.Ytgmcmblcljfofaa
