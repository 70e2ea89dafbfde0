/-
  No cell of these rows narrows 'for every input' (looked for: loops, veiled, ifaces, maps, wideKeys, modest, calm, conditions, laid).
  DERIVED. THE GIVEN ROWS OF THIS SEAT. 10 by the template 'for every input the law returns true; each argument reads behind the call as it read before'; 0 by the template 'total and deterministic' (their statements: YtmhknknapciebaaTotals.lean).
  GIVEN WITH THE SEED: the statements are not yours to turn. If you find one false, say at which input.
  Laid BY PROGRAM, IN A SANDBOX (cutbox-rows.mjs): the forced cells as the released guide's own fill.sh prints them over the translation 1cbc0e393cb02853… (all of the seat's roots in one cut). By AI agents, Wed Nov 11 2026. No macro, syntax, notation, axiom, sorry.
-/
import Derived.Test.YtmhknknapciebaaChecked
import GoSem.Claim
import GoSem.ClaimJoined
import GoSem.ClaimMapViews
import Derived.JoinedTies
import Derived.KernelRfl
namespace Go.Proofs.Ytmhknknapciebaa
/- THE CELL 'sum', in the pinned program and in every row, IS THE sha256 OF THE DUMP (.gsa) THAT YtmhknknapciebaaProg.lean LOADS. Nothing in Lean hashes anything: it is a label: what it is worth is what the hold of that sum in a sandbox is worth. -/
noncomputable def Try.pinned : Pinned := { name := "ytmhknknapciebaa", sum := "1cbc0e393cb02853a6d234678cb58e69c97833b7c99fe45075f32fd1ff2fd8fa", checked := Try.checked }
namespace Rows
def none {H : Type} : Left H := { results := [], args := [] }

/-- 'laws.FnExactPayOf': WHATEVER THE INPUT: true; the input reads as it did. -/
def fnExactPayOfSpec : ChangeSpec := { name := "fnExactPayOf", fn := fun _ => fun
  | [d1, d2, d3] => { results := [.lit (.bool true)], args := [d1, d2, d3] }
  | _ => none }
def fnExactPayOfRow : OpenClaim := { program := "ytmhknknapciebaa", sum := "1cbc0e393cb02853a6d234678cb58e69c97833b7c99fe45075f32fd1ff2fd8fa", func := "loop.example/strategiesthatspread/laws.FnExactPayOf", spec := "fnExactPayOf", apart := false }
def FnExactPayOfSaid : Prop := fnExactPayOfRow.holds Try.pinned (OpenSpec.ofChange fnExactPayOfSpec)

/-- ITS FALSE NEIGHBOUR: 'it returns false'. Refute it at one input. -/
def fnExactPayOfWrong : ChangeSpec := { name := "fnExactPayOf", fn := fun _ => fun
  | [d1, d2, d3] => { results := [.lit (.bool false)], args := [d1, d2, d3] }
  | _ => none }
def FnExactPayOfWrongFalsely : Prop := fnExactPayOfRow.holds Try.pinned (OpenSpec.ofChange fnExactPayOfWrong)

/-- 'laws.FnExactWorstOf': WHATEVER THE INPUT: true; the input reads as it did. -/
def fnExactWorstOfSpec : ChangeSpec := { name := "fnExactWorstOf", fn := fun _ => fun
  | [d1, d2] => { results := [.lit (.bool true)], args := [d1, d2] }
  | _ => none }
def fnExactWorstOfRow : OpenClaim := { program := "ytmhknknapciebaa", sum := "1cbc0e393cb02853a6d234678cb58e69c97833b7c99fe45075f32fd1ff2fd8fa", func := "loop.example/strategiesthatspread/laws.FnExactWorstOf", spec := "fnExactWorstOf", apart := false }
def FnExactWorstOfSaid : Prop := fnExactWorstOfRow.holds Try.pinned (OpenSpec.ofChange fnExactWorstOfSpec)

/-- ITS FALSE NEIGHBOUR: 'it returns false'. Refute it at one input. -/
def fnExactWorstOfWrong : ChangeSpec := { name := "fnExactWorstOf", fn := fun _ => fun
  | [d1, d2] => { results := [.lit (.bool false)], args := [d1, d2] }
  | _ => none }
def FnExactWorstOfWrongFalsely : Prop := fnExactWorstOfRow.holds Try.pinned (OpenSpec.ofChange fnExactWorstOfWrong)

/-- 'laws.FnExactAreBest': WHATEVER THE INPUT: true; the input reads as it did. -/
def fnExactAreBestSpec : ChangeSpec := { name := "fnExactAreBest", fn := fun _ => fun
  | [d1, d2, d3] => { results := [.lit (.bool true)], args := [d1, d2, d3] }
  | _ => none }
def fnExactAreBestRow : OpenClaim := { program := "ytmhknknapciebaa", sum := "1cbc0e393cb02853a6d234678cb58e69c97833b7c99fe45075f32fd1ff2fd8fa", func := "loop.example/strategiesthatspread/laws.FnExactAreBest", spec := "fnExactAreBest", apart := false }
def FnExactAreBestSaid : Prop := fnExactAreBestRow.holds Try.pinned (OpenSpec.ofChange fnExactAreBestSpec)

/-- ITS FALSE NEIGHBOUR: 'it returns false'. Refute it at one input. -/
def fnExactAreBestWrong : ChangeSpec := { name := "fnExactAreBest", fn := fun _ => fun
  | [d1, d2, d3] => { results := [.lit (.bool false)], args := [d1, d2, d3] }
  | _ => none }
def FnExactAreBestWrongFalsely : Prop := fnExactAreBestRow.holds Try.pinned (OpenSpec.ofChange fnExactAreBestWrong)

/-- 'laws.FnValidSquare': WHATEVER THE INPUT: true; the input reads as it did. -/
def fnValidSquareSpec : ChangeSpec := { name := "fnValidSquare", fn := fun _ => fun
  | [d] => { results := [.lit (.bool true)], args := [d] }
  | _ => none }
def fnValidSquareRow : OpenClaim := { program := "ytmhknknapciebaa", sum := "1cbc0e393cb02853a6d234678cb58e69c97833b7c99fe45075f32fd1ff2fd8fa", func := "loop.example/strategiesthatspread/laws.FnValidSquare", spec := "fnValidSquare", apart := false }
def FnValidSquareSaid : Prop := fnValidSquareRow.holds Try.pinned (OpenSpec.ofChange fnValidSquareSpec)

/-- ITS FALSE NEIGHBOUR: 'it returns false'. Refute it at one input. -/
def fnValidSquareWrong : ChangeSpec := { name := "fnValidSquare", fn := fun _ => fun
  | [d] => { results := [.lit (.bool false)], args := [d] }
  | _ => none }
def FnValidSquareWrongFalsely : Prop := fnValidSquareRow.holds Try.pinned (OpenSpec.ofChange fnValidSquareWrong)

/-- 'laws.FnValidField': WHATEVER THE INPUT: true; the input reads as it did. -/
def fnValidFieldSpec : ChangeSpec := { name := "fnValidField", fn := fun _ => fun
  | [d] => { results := [.lit (.bool true)], args := [d] }
  | _ => none }
def fnValidFieldRow : OpenClaim := { program := "ytmhknknapciebaa", sum := "1cbc0e393cb02853a6d234678cb58e69c97833b7c99fe45075f32fd1ff2fd8fa", func := "loop.example/strategiesthatspread/laws.FnValidField", spec := "fnValidField", apart := false }
def FnValidFieldSaid : Prop := fnValidFieldRow.holds Try.pinned (OpenSpec.ofChange fnValidFieldSpec)

/-- ITS FALSE NEIGHBOUR: 'it returns false'. Refute it at one input. -/
def fnValidFieldWrong : ChangeSpec := { name := "fnValidField", fn := fun _ => fun
  | [d] => { results := [.lit (.bool false)], args := [d] }
  | _ => none }
def FnValidFieldWrongFalsely : Prop := fnValidFieldRow.holds Try.pinned (OpenSpec.ofChange fnValidFieldWrong)

/-- 'laws.FnIsEven': WHATEVER THE INPUT: true; the input reads as it did. -/
def fnIsEvenSpec : ChangeSpec := { name := "fnIsEven", fn := fun _ => fun
  | [d] => { results := [.lit (.bool true)], args := [d] }
  | _ => none }
def fnIsEvenRow : OpenClaim := { program := "ytmhknknapciebaa", sum := "1cbc0e393cb02853a6d234678cb58e69c97833b7c99fe45075f32fd1ff2fd8fa", func := "loop.example/strategiesthatspread/laws.FnIsEven", spec := "fnIsEven", apart := false }
def FnIsEvenSaid : Prop := fnIsEvenRow.holds Try.pinned (OpenSpec.ofChange fnIsEvenSpec)

/-- ITS FALSE NEIGHBOUR: 'it returns false'. Refute it at one input. -/
def fnIsEvenWrong : ChangeSpec := { name := "fnIsEven", fn := fun _ => fun
  | [d] => { results := [.lit (.bool false)], args := [d] }
  | _ => none }
def FnIsEvenWrongFalsely : Prop := fnIsEvenRow.holds Try.pinned (OpenSpec.ofChange fnIsEvenWrong)

/-- 'laws.FnIsRest': WHATEVER THE INPUT: true; the input reads as it did. -/
def fnIsRestSpec : ChangeSpec := { name := "fnIsRest", fn := fun _ => fun
  | [d] => { results := [.lit (.bool true)], args := [d] }
  | _ => none }
def fnIsRestRow : OpenClaim := { program := "ytmhknknapciebaa", sum := "1cbc0e393cb02853a6d234678cb58e69c97833b7c99fe45075f32fd1ff2fd8fa", func := "loop.example/strategiesthatspread/laws.FnIsRest", spec := "fnIsRest", unfollowed := true, recurses := true, apart := false }
def FnIsRestSaid : Prop := fnIsRestRow.holds Try.pinned (OpenSpec.ofChange fnIsRestSpec)

/-- ITS FALSE NEIGHBOUR: 'it returns false'. Refute it at one input. -/
def fnIsRestWrong : ChangeSpec := { name := "fnIsRest", fn := fun _ => fun
  | [d] => { results := [.lit (.bool false)], args := [d] }
  | _ => none }
def FnIsRestWrongFalsely : Prop := fnIsRestRow.holds Try.pinned (OpenSpec.ofChange fnIsRestWrong)

/-- 'laws.FnRestsOn': WHATEVER THE INPUT: true; the input reads as it did. -/
def fnRestsOnSpec : ChangeSpec := { name := "fnRestsOn", fn := fun _ => fun
  | [d] => { results := [.lit (.bool true)], args := [d] }
  | _ => none }
def fnRestsOnRow : OpenClaim := { program := "ytmhknknapciebaa", sum := "1cbc0e393cb02853a6d234678cb58e69c97833b7c99fe45075f32fd1ff2fd8fa", func := "loop.example/strategiesthatspread/laws.FnRestsOn", spec := "fnRestsOn", unfollowed := true, recurses := true, apart := false }
def FnRestsOnSaid : Prop := fnRestsOnRow.holds Try.pinned (OpenSpec.ofChange fnRestsOnSpec)

/-- ITS FALSE NEIGHBOUR: 'it returns false'. Refute it at one input. -/
def fnRestsOnWrong : ChangeSpec := { name := "fnRestsOn", fn := fun _ => fun
  | [d] => { results := [.lit (.bool false)], args := [d] }
  | _ => none }
def FnRestsOnWrongFalsely : Prop := fnRestsOnRow.holds Try.pinned (OpenSpec.ofChange fnRestsOnWrong)

/-- 'laws.FnRestsOfOne': WHATEVER THE INPUT: true; the input reads as it did. -/
def fnRestsOfOneSpec : ChangeSpec := { name := "fnRestsOfOne", fn := fun _ => fun
  | [d] => { results := [.lit (.bool true)], args := [d] }
  | _ => none }
def fnRestsOfOneRow : OpenClaim := { program := "ytmhknknapciebaa", sum := "1cbc0e393cb02853a6d234678cb58e69c97833b7c99fe45075f32fd1ff2fd8fa", func := "loop.example/strategiesthatspread/laws.FnRestsOfOne", spec := "fnRestsOfOne", unfollowed := true, recurses := true, apart := false }
def FnRestsOfOneSaid : Prop := fnRestsOfOneRow.holds Try.pinned (OpenSpec.ofChange fnRestsOfOneSpec)

/-- ITS FALSE NEIGHBOUR: 'it returns false'. Refute it at one input. -/
def fnRestsOfOneWrong : ChangeSpec := { name := "fnRestsOfOne", fn := fun _ => fun
  | [d] => { results := [.lit (.bool false)], args := [d] }
  | _ => none }
def FnRestsOfOneWrongFalsely : Prop := fnRestsOfOneRow.holds Try.pinned (OpenSpec.ofChange fnRestsOfOneWrong)

/-- 'laws.FnFairGames': WHATEVER THE INPUT: true; the input reads as it did. -/
def fnFairGamesSpec : ChangeSpec := { name := "fnFairGames", fn := fun _ => fun
  | [d] => { results := [.lit (.bool true)], args := [d] }
  | _ => none }
def fnFairGamesRow : OpenClaim := { program := "ytmhknknapciebaa", sum := "1cbc0e393cb02853a6d234678cb58e69c97833b7c99fe45075f32fd1ff2fd8fa", func := "loop.example/strategiesthatspread/laws.FnFairGames", spec := "fnFairGames", recurses := true, apart := false }
def FnFairGamesSaid : Prop := fnFairGamesRow.holds Try.pinned (OpenSpec.ofChange fnFairGamesSpec)

/-- ITS FALSE NEIGHBOUR: 'it returns false'. Refute it at one input. -/
def fnFairGamesWrong : ChangeSpec := { name := "fnFairGames", fn := fun _ => fun
  | [d] => { results := [.lit (.bool false)], args := [d] }
  | _ => none }
def FnFairGamesWrongFalsely : Prop := fnFairGamesRow.holds Try.pinned (OpenSpec.ofChange fnFairGamesWrong)

/- THE SECOND FORM. 'bulk': how many values and letters a reading holds, each counted each time it is reached (what is shared counts as often as it is met; a slice's spare places count too). A statement '..UptoSaid' is the law's where the arguments, and the package variables that the reading takes, are together of bulk at most 1048576: NARROWER than '..Said'. Prove '..Said' where nothing that the law and all that it calls make is longer than what came in: it says more and counts as full. Else prove '..UptoSaid'. A law counts once. -/
mutual
def uptoBulk {H : Type} : DataW H → Nat
  | .lit (.string bytes) => bytes.length + 1
  | .lit _ => 1
  | .nil => 1
  | .ptr d => uptoBulk d + 1
  | .slice elems spare => uptoBulkAll elems + uptoBulkAll spare + 1
  | .agg parts => uptoBulkAll parts + 1
  | .iface _ d => uptoBulk d + 1
  | .map entries => uptoBulkEntries entries + 1
  | .held _ => 1
def uptoBulkAll {H : Type} : List (DataW H) → Nat
  | [] => 0
  | d :: r => uptoBulk d + uptoBulkAll r
def uptoBulkEntries {H : Type} : List (Lit × DataW H) → Nat
  | [] => 0
  | x :: r => uptoBulkEntry x + uptoBulkEntries r
def uptoBulkEntry {H : Type} : Lit × DataW H → Nat
  | (.string bytes, d) => bytes.length + uptoBulk d + 1
  | (_, d) => uptoBulk d + 1
 end
def uptoSmall : (H : Type) → List (DataW H) → Bool := fun _ ds => decide (uptoBulkAll ds ≤ 1048576)
def OpenSpec.upto (s : _root_.Go.ChangeSpec) : _root_.Go.OpenSpec := { _root_.Go.OpenSpec.ofChange s with cond := some uptoSmall }

/-- 'laws.FnExactPayOf', WHERE WHAT IT READS IS OF BULK AT MOST 1048576: true; the input reads as it did. -/
def fnExactPayOfUptoRow : OpenClaim := { program := "ytmhknknapciebaa", sum := "1cbc0e393cb02853a6d234678cb58e69c97833b7c99fe45075f32fd1ff2fd8fa", func := "loop.example/strategiesthatspread/laws.FnExactPayOf", spec := "fnExactPayOf", apart := false, narrowed := true }
def FnExactPayOfUptoSaid : Prop := fnExactPayOfUptoRow.holds Try.pinned (OpenSpec.upto fnExactPayOfSpec)

/-- 'laws.FnExactWorstOf', WHERE WHAT IT READS IS OF BULK AT MOST 1048576: true; the input reads as it did. -/
def fnExactWorstOfUptoRow : OpenClaim := { program := "ytmhknknapciebaa", sum := "1cbc0e393cb02853a6d234678cb58e69c97833b7c99fe45075f32fd1ff2fd8fa", func := "loop.example/strategiesthatspread/laws.FnExactWorstOf", spec := "fnExactWorstOf", apart := false, narrowed := true }
def FnExactWorstOfUptoSaid : Prop := fnExactWorstOfUptoRow.holds Try.pinned (OpenSpec.upto fnExactWorstOfSpec)

/-- 'laws.FnExactAreBest', WHERE WHAT IT READS IS OF BULK AT MOST 1048576: true; the input reads as it did. -/
def fnExactAreBestUptoRow : OpenClaim := { program := "ytmhknknapciebaa", sum := "1cbc0e393cb02853a6d234678cb58e69c97833b7c99fe45075f32fd1ff2fd8fa", func := "loop.example/strategiesthatspread/laws.FnExactAreBest", spec := "fnExactAreBest", apart := false, narrowed := true }
def FnExactAreBestUptoSaid : Prop := fnExactAreBestUptoRow.holds Try.pinned (OpenSpec.upto fnExactAreBestSpec)

/-- 'laws.FnValidSquare', WHERE WHAT IT READS IS OF BULK AT MOST 1048576: true; the input reads as it did. -/
def fnValidSquareUptoRow : OpenClaim := { program := "ytmhknknapciebaa", sum := "1cbc0e393cb02853a6d234678cb58e69c97833b7c99fe45075f32fd1ff2fd8fa", func := "loop.example/strategiesthatspread/laws.FnValidSquare", spec := "fnValidSquare", apart := false, narrowed := true }
def FnValidSquareUptoSaid : Prop := fnValidSquareUptoRow.holds Try.pinned (OpenSpec.upto fnValidSquareSpec)

/-- 'laws.FnValidField', WHERE WHAT IT READS IS OF BULK AT MOST 1048576: true; the input reads as it did. -/
def fnValidFieldUptoRow : OpenClaim := { program := "ytmhknknapciebaa", sum := "1cbc0e393cb02853a6d234678cb58e69c97833b7c99fe45075f32fd1ff2fd8fa", func := "loop.example/strategiesthatspread/laws.FnValidField", spec := "fnValidField", apart := false, narrowed := true }
def FnValidFieldUptoSaid : Prop := fnValidFieldUptoRow.holds Try.pinned (OpenSpec.upto fnValidFieldSpec)

/-- 'laws.FnIsEven', WHERE WHAT IT READS IS OF BULK AT MOST 1048576: true; the input reads as it did. -/
def fnIsEvenUptoRow : OpenClaim := { program := "ytmhknknapciebaa", sum := "1cbc0e393cb02853a6d234678cb58e69c97833b7c99fe45075f32fd1ff2fd8fa", func := "loop.example/strategiesthatspread/laws.FnIsEven", spec := "fnIsEven", apart := false, narrowed := true }
def FnIsEvenUptoSaid : Prop := fnIsEvenUptoRow.holds Try.pinned (OpenSpec.upto fnIsEvenSpec)

/-- 'laws.FnIsRest', WHERE WHAT IT READS IS OF BULK AT MOST 1048576: true; the input reads as it did. -/
def fnIsRestUptoRow : OpenClaim := { program := "ytmhknknapciebaa", sum := "1cbc0e393cb02853a6d234678cb58e69c97833b7c99fe45075f32fd1ff2fd8fa", func := "loop.example/strategiesthatspread/laws.FnIsRest", spec := "fnIsRest", unfollowed := true, recurses := true, apart := false, narrowed := true }
def FnIsRestUptoSaid : Prop := fnIsRestUptoRow.holds Try.pinned (OpenSpec.upto fnIsRestSpec)

/-- 'laws.FnRestsOn', WHERE WHAT IT READS IS OF BULK AT MOST 1048576: true; the input reads as it did. -/
def fnRestsOnUptoRow : OpenClaim := { program := "ytmhknknapciebaa", sum := "1cbc0e393cb02853a6d234678cb58e69c97833b7c99fe45075f32fd1ff2fd8fa", func := "loop.example/strategiesthatspread/laws.FnRestsOn", spec := "fnRestsOn", unfollowed := true, recurses := true, apart := false, narrowed := true }
def FnRestsOnUptoSaid : Prop := fnRestsOnUptoRow.holds Try.pinned (OpenSpec.upto fnRestsOnSpec)

/-- 'laws.FnRestsOfOne', WHERE WHAT IT READS IS OF BULK AT MOST 1048576: true; the input reads as it did. -/
def fnRestsOfOneUptoRow : OpenClaim := { program := "ytmhknknapciebaa", sum := "1cbc0e393cb02853a6d234678cb58e69c97833b7c99fe45075f32fd1ff2fd8fa", func := "loop.example/strategiesthatspread/laws.FnRestsOfOne", spec := "fnRestsOfOne", unfollowed := true, recurses := true, apart := false, narrowed := true }
def FnRestsOfOneUptoSaid : Prop := fnRestsOfOneUptoRow.holds Try.pinned (OpenSpec.upto fnRestsOfOneSpec)

/-- 'laws.FnFairGames', WHERE WHAT IT READS IS OF BULK AT MOST 1048576: true; the input reads as it did. -/
def fnFairGamesUptoRow : OpenClaim := { program := "ytmhknknapciebaa", sum := "1cbc0e393cb02853a6d234678cb58e69c97833b7c99fe45075f32fd1ff2fd8fa", func := "loop.example/strategiesthatspread/laws.FnFairGames", spec := "fnFairGames", recurses := true, apart := false, narrowed := true }
def FnFairGamesUptoSaid : Prop := fnFairGamesUptoRow.holds Try.pinned (OpenSpec.upto fnFairGamesSpec)

end Rows
end Go.Proofs.Ytmhknknapciebaa
