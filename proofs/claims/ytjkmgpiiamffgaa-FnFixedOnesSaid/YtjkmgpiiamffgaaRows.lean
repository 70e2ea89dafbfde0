/-
  No cell of these rows narrows 'for every input' (looked for: loops, veiled, ifaces, maps, wideKeys, modest, calm, conditions, laid).
  DERIVED. THE GIVEN ROWS OF THIS SEAT. 10 by the template 'for every input the law returns true; each argument reads behind the call as it read before'; 0 by the template 'total and deterministic' (their statements: YtjkmgpiiamffgaaTotals.lean).
  GIVEN WITH THE SEED: the statements are not yours to turn. If you find one false, say at which input.
  Laid BY PROGRAM, IN A SANDBOX (cutbox-rows.mjs): the forced cells as the released guide's own fill.sh prints them over the translation 73357b8c963f6dca… (all of the seat's roots in one cut). By AI agents, Wed Nov 11 2026. No macro, syntax, notation, axiom, sorry.
-/
import Derived.Test.YtjkmgpiiamffgaaChecked
import GoSem.Claim
import GoSem.ClaimJoined
import GoSem.ClaimMapViews
import Derived.JoinedTies
import Derived.KernelRfl
namespace Go.Proofs.Ytjkmgpiiamffgaa
/- THE CELL 'sum', in the pinned program and in every row, IS THE sha256 OF THE DUMP (.gsa) THAT YtjkmgpiiamffgaaProg.lean LOADS. Nothing in Lean hashes anything: it is a label: what it is worth is what the hold of that sum in a sandbox is worth. -/
noncomputable def Try.pinned : Pinned := { name := "ytjkmgpiiamffgaa", sum := "73357b8c963f6dca22f38ac27fd28e45d484f0531389342b4c98ba3b043a8406", checked := Try.checked }
namespace Rows
def none {H : Type} : Left H := { results := [], args := [] }

/-- 'laws.FnOddsOf': WHATEVER THE INPUT: true; the input reads as it did. -/
def fnOddsOfSpec : ChangeSpec := { name := "fnOddsOf", fn := fun _ => fun
  | [d] => { results := [.lit (.bool true)], args := [d] }
  | _ => none }
def fnOddsOfRow : OpenClaim := { program := "ytjkmgpiiamffgaa", sum := "73357b8c963f6dca22f38ac27fd28e45d484f0531389342b4c98ba3b043a8406", func := "loop.example/strategiesthatspread/laws.FnOddsOf", spec := "fnOddsOf", unfollowed := true, recurses := true, plainKeys := false, apart := false }
def FnOddsOfSaid : Prop := fnOddsOfRow.holds Try.pinned (OpenSpec.ofChange fnOddsOfSpec)

/-- ITS FALSE NEIGHBOUR: 'it returns false'. Refute it at one input. -/
def fnOddsOfWrong : ChangeSpec := { name := "fnOddsOf", fn := fun _ => fun
  | [d] => { results := [.lit (.bool false)], args := [d] }
  | _ => none }
def FnOddsOfWrongFalsely : Prop := fnOddsOfRow.holds Try.pinned (OpenSpec.ofChange fnOddsOfWrong)

/-- 'laws.FnSameIsChance': WHATEVER THE INPUT: true; the input reads as it did. -/
def fnSameIsChanceSpec : ChangeSpec := { name := "fnSameIsChance", fn := fun _ => fun
  | [d] => { results := [.lit (.bool true)], args := [d] }
  | _ => none }
def fnSameIsChanceRow : OpenClaim := { program := "ytjkmgpiiamffgaa", sum := "73357b8c963f6dca22f38ac27fd28e45d484f0531389342b4c98ba3b043a8406", func := "loop.example/strategiesthatspread/laws.FnSameIsChance", spec := "fnSameIsChance", unfollowed := true, recurses := true, plainKeys := false, apart := false }
def FnSameIsChanceSaid : Prop := fnSameIsChanceRow.holds Try.pinned (OpenSpec.ofChange fnSameIsChanceSpec)

/-- ITS FALSE NEIGHBOUR: 'it returns false'. Refute it at one input. -/
def fnSameIsChanceWrong : ChangeSpec := { name := "fnSameIsChance", fn := fun _ => fun
  | [d] => { results := [.lit (.bool false)], args := [d] }
  | _ => none }
def FnSameIsChanceWrongFalsely : Prop := fnSameIsChanceRow.holds Try.pinned (OpenSpec.ofChange fnSameIsChanceWrong)

/-- 'laws.FnMoreIsSurer': WHATEVER THE INPUT: true; the input reads as it did. -/
def fnMoreIsSurerSpec : ChangeSpec := { name := "fnMoreIsSurer", fn := fun _ => fun
  | [d] => { results := [.lit (.bool true)], args := [d] }
  | _ => none }
def fnMoreIsSurerRow : OpenClaim := { program := "ytjkmgpiiamffgaa", sum := "73357b8c963f6dca22f38ac27fd28e45d484f0531389342b4c98ba3b043a8406", func := "loop.example/strategiesthatspread/laws.FnMoreIsSurer", spec := "fnMoreIsSurer", unfollowed := true, recurses := true, plainKeys := false, apart := false }
def FnMoreIsSurerSaid : Prop := fnMoreIsSurerRow.holds Try.pinned (OpenSpec.ofChange fnMoreIsSurerSpec)

/-- ITS FALSE NEIGHBOUR: 'it returns false'. Refute it at one input. -/
def fnMoreIsSurerWrong : ChangeSpec := { name := "fnMoreIsSurer", fn := fun _ => fun
  | [d] => { results := [.lit (.bool false)], args := [d] }
  | _ => none }
def FnMoreIsSurerWrongFalsely : Prop := fnMoreIsSurerRow.holds Try.pinned (OpenSpec.ofChange fnMoreIsSurerWrong)

/-- 'laws.FnFixedOnes': WHATEVER THE INPUT: true; the input reads as it did. -/
def fnFixedOnesSpec : ChangeSpec := { name := "fnFixedOnes", fn := fun _ => fun
  | [d] => { results := [.lit (.bool true)], args := [d] }
  | _ => none }
def fnFixedOnesRow : OpenClaim := { program := "ytjkmgpiiamffgaa", sum := "73357b8c963f6dca22f38ac27fd28e45d484f0531389342b4c98ba3b043a8406", func := "loop.example/strategiesthatspread/laws.FnFixedOnes", spec := "fnFixedOnes", unfollowed := true, recurses := true, plainKeys := false, apart := false }
def FnFixedOnesSaid : Prop := fnFixedOnesRow.holds Try.pinned (OpenSpec.ofChange fnFixedOnesSpec)

/-- ITS FALSE NEIGHBOUR: 'it returns false'. Refute it at one input. -/
def fnFixedOnesWrong : ChangeSpec := { name := "fnFixedOnes", fn := fun _ => fun
  | [d] => { results := [.lit (.bool false)], args := [d] }
  | _ => none }
def FnFixedOnesWrongFalsely : Prop := fnFixedOnesRow.holds Try.pinned (OpenSpec.ofChange fnFixedOnesWrong)

/-- 'laws.FnCopyRing': WHATEVER THE INPUT: true; the input reads as it did. -/
def fnCopyRingSpec : ChangeSpec := { name := "fnCopyRing", fn := fun _ => fun
  | [d] => { results := [.lit (.bool true)], args := [d] }
  | _ => none }
def fnCopyRingRow : OpenClaim := { program := "ytjkmgpiiamffgaa", sum := "73357b8c963f6dca22f38ac27fd28e45d484f0531389342b4c98ba3b043a8406", func := "loop.example/strategiesthatspread/laws.FnCopyRing", spec := "fnCopyRing", plainKeys := false, apart := false }
def FnCopyRingSaid : Prop := fnCopyRingRow.holds Try.pinned (OpenSpec.ofChange fnCopyRingSpec)

/-- ITS FALSE NEIGHBOUR: 'it returns false'. Refute it at one input. -/
def fnCopyRingWrong : ChangeSpec := { name := "fnCopyRing", fn := fun _ => fun
  | [d] => { results := [.lit (.bool false)], args := [d] }
  | _ => none }
def FnCopyRingWrongFalsely : Prop := fnCopyRingRow.holds Try.pinned (OpenSpec.ofChange fnCopyRingWrong)

/-- 'laws.FnExactCopyRing': WHATEVER THE INPUT: true; the input reads as it did. -/
def fnExactCopyRingSpec : ChangeSpec := { name := "fnExactCopyRing", fn := fun _ => fun
  | [d1, d2] => { results := [.lit (.bool true)], args := [d1, d2] }
  | _ => none }
def fnExactCopyRingRow : OpenClaim := { program := "ytjkmgpiiamffgaa", sum := "73357b8c963f6dca22f38ac27fd28e45d484f0531389342b4c98ba3b043a8406", func := "loop.example/strategiesthatspread/laws.FnExactCopyRing", spec := "fnExactCopyRing", plainKeys := false, apart := false }
def FnExactCopyRingSaid : Prop := fnExactCopyRingRow.holds Try.pinned (OpenSpec.ofChange fnExactCopyRingSpec)

/-- ITS FALSE NEIGHBOUR: 'it returns false'. Refute it at one input. -/
def fnExactCopyRingWrong : ChangeSpec := { name := "fnExactCopyRing", fn := fun _ => fun
  | [d1, d2] => { results := [.lit (.bool false)], args := [d1, d2] }
  | _ => none }
def FnExactCopyRingWrongFalsely : Prop := fnExactCopyRingRow.holds Try.pinned (OpenSpec.ofChange fnExactCopyRingWrong)

/-- 'laws.FnReplyMoves': WHATEVER THE INPUT: true; the input reads as it did. -/
def fnReplyMovesSpec : ChangeSpec := { name := "fnReplyMoves", fn := fun _ => fun
  | [d] => { results := [.lit (.bool true)], args := [d] }
  | _ => none }
def fnReplyMovesRow : OpenClaim := { program := "ytjkmgpiiamffgaa", sum := "73357b8c963f6dca22f38ac27fd28e45d484f0531389342b4c98ba3b043a8406", func := "loop.example/strategiesthatspread/laws.FnReplyMoves", spec := "fnReplyMoves", plainKeys := false, apart := false }
def FnReplyMovesSaid : Prop := fnReplyMovesRow.holds Try.pinned (OpenSpec.ofChange fnReplyMovesSpec)

/-- ITS FALSE NEIGHBOUR: 'it returns false'. Refute it at one input. -/
def fnReplyMovesWrong : ChangeSpec := { name := "fnReplyMoves", fn := fun _ => fun
  | [d] => { results := [.lit (.bool false)], args := [d] }
  | _ => none }
def FnReplyMovesWrongFalsely : Prop := fnReplyMovesRow.holds Try.pinned (OpenSpec.ofChange fnReplyMovesWrong)

/-- 'laws.FnExactReplyMoves': WHATEVER THE INPUT: true; the input reads as it did. -/
def fnExactReplyMovesSpec : ChangeSpec := { name := "fnExactReplyMoves", fn := fun _ => fun
  | [d1, d2, d3] => { results := [.lit (.bool true)], args := [d1, d2, d3] }
  | _ => none }
def fnExactReplyMovesRow : OpenClaim := { program := "ytjkmgpiiamffgaa", sum := "73357b8c963f6dca22f38ac27fd28e45d484f0531389342b4c98ba3b043a8406", func := "loop.example/strategiesthatspread/laws.FnExactReplyMoves", spec := "fnExactReplyMoves", plainKeys := false, apart := false }
def FnExactReplyMovesSaid : Prop := fnExactReplyMovesRow.holds Try.pinned (OpenSpec.ofChange fnExactReplyMovesSpec)

/-- ITS FALSE NEIGHBOUR: 'it returns false'. Refute it at one input. -/
def fnExactReplyMovesWrong : ChangeSpec := { name := "fnExactReplyMoves", fn := fun _ => fun
  | [d1, d2, d3] => { results := [.lit (.bool false)], args := [d1, d2, d3] }
  | _ => none }
def FnExactReplyMovesWrongFalsely : Prop := fnExactReplyMovesRow.holds Try.pinned (OpenSpec.ofChange fnExactReplyMovesWrong)

/-- 'laws.FnExactRingCycle': WHATEVER THE INPUT: true; the input reads as it did. -/
def fnExactRingCycleSpec : ChangeSpec := { name := "fnExactRingCycle", fn := fun _ => fun
  | [d1, d2] => { results := [.lit (.bool true)], args := [d1, d2] }
  | _ => none }
def fnExactRingCycleRow : OpenClaim := { program := "ytjkmgpiiamffgaa", sum := "73357b8c963f6dca22f38ac27fd28e45d484f0531389342b4c98ba3b043a8406", func := "loop.example/strategiesthatspread/laws.FnExactRingCycle", spec := "fnExactRingCycle", plainKeys := false, apart := false }
def FnExactRingCycleSaid : Prop := fnExactRingCycleRow.holds Try.pinned (OpenSpec.ofChange fnExactRingCycleSpec)

/-- ITS FALSE NEIGHBOUR: 'it returns false'. Refute it at one input. -/
def fnExactRingCycleWrong : ChangeSpec := { name := "fnExactRingCycle", fn := fun _ => fun
  | [d1, d2] => { results := [.lit (.bool false)], args := [d1, d2] }
  | _ => none }
def FnExactRingCycleWrongFalsely : Prop := fnExactRingCycleRow.holds Try.pinned (OpenSpec.ofChange fnExactRingCycleWrong)

/-- 'laws.FnRingCycle': WHATEVER THE INPUT: true; the input reads as it did. -/
def fnRingCycleSpec : ChangeSpec := { name := "fnRingCycle", fn := fun _ => fun
  | [d] => { results := [.lit (.bool true)], args := [d] }
  | _ => none }
def fnRingCycleRow : OpenClaim := { program := "ytjkmgpiiamffgaa", sum := "73357b8c963f6dca22f38ac27fd28e45d484f0531389342b4c98ba3b043a8406", func := "loop.example/strategiesthatspread/laws.FnRingCycle", spec := "fnRingCycle", plainKeys := false, apart := false }
def FnRingCycleSaid : Prop := fnRingCycleRow.holds Try.pinned (OpenSpec.ofChange fnRingCycleSpec)

/-- ITS FALSE NEIGHBOUR: 'it returns false'. Refute it at one input. -/
def fnRingCycleWrong : ChangeSpec := { name := "fnRingCycle", fn := fun _ => fun
  | [d] => { results := [.lit (.bool false)], args := [d] }
  | _ => none }
def FnRingCycleWrongFalsely : Prop := fnRingCycleRow.holds Try.pinned (OpenSpec.ofChange fnRingCycleWrong)

/- THE SECOND FORM. 'bulk': how many values and letters a reading holds, each counted each time it is reached (what is shared counts as often as it is met; a slice's spare places count too). A statement '..UptoSaid' is the law's where the arguments, and the package variables that the reading takes, are together of bulk at most 1048576: NARROWER than '..Said'. Prove '..Said' where nothing that the law and all that it calls make is longer than what came in: it says more and counts as full. Else prove '..UptoSaid'. A law counts once. -/
mutual
def uptoBulk {H : Type} : DataW H → Nat
  | .lit (.string bytes) => bytes.length + 1
  | .lit _ => 1
  | .nil => 1
  | .ptr d => uptoBulk d + 1
  | .slice elems spare => uptoBulkAll elems + uptoBulkAll spare + 1
  | .agg parts => uptoBulkAll parts + 1
  | .iface _ d => uptoBulk d + 1
  | .map entries => uptoBulkEntries entries + 1
  | .held _ => 1
def uptoBulkAll {H : Type} : List (DataW H) → Nat
  | [] => 0
  | d :: r => uptoBulk d + uptoBulkAll r
def uptoBulkEntries {H : Type} : List (Lit × DataW H) → Nat
  | [] => 0
  | x :: r => uptoBulkEntry x + uptoBulkEntries r
def uptoBulkEntry {H : Type} : Lit × DataW H → Nat
  | (.string bytes, d) => bytes.length + uptoBulk d + 1
  | (_, d) => uptoBulk d + 1
 end
def uptoSmall : (H : Type) → List (DataW H) → Bool := fun _ ds => decide (uptoBulkAll ds ≤ 1048576)
def OpenSpec.upto (s : _root_.Go.ChangeSpec) : _root_.Go.OpenSpec := { _root_.Go.OpenSpec.ofChange s with cond := some uptoSmall }

/-- 'laws.FnOddsOf', WHERE WHAT IT READS IS OF BULK AT MOST 1048576: true; the input reads as it did. -/
def fnOddsOfUptoRow : OpenClaim := { program := "ytjkmgpiiamffgaa", sum := "73357b8c963f6dca22f38ac27fd28e45d484f0531389342b4c98ba3b043a8406", func := "loop.example/strategiesthatspread/laws.FnOddsOf", spec := "fnOddsOf", unfollowed := true, recurses := true, plainKeys := false, apart := false, narrowed := true }
def FnOddsOfUptoSaid : Prop := fnOddsOfUptoRow.holds Try.pinned (OpenSpec.upto fnOddsOfSpec)

/-- 'laws.FnSameIsChance', WHERE WHAT IT READS IS OF BULK AT MOST 1048576: true; the input reads as it did. -/
def fnSameIsChanceUptoRow : OpenClaim := { program := "ytjkmgpiiamffgaa", sum := "73357b8c963f6dca22f38ac27fd28e45d484f0531389342b4c98ba3b043a8406", func := "loop.example/strategiesthatspread/laws.FnSameIsChance", spec := "fnSameIsChance", unfollowed := true, recurses := true, plainKeys := false, apart := false, narrowed := true }
def FnSameIsChanceUptoSaid : Prop := fnSameIsChanceUptoRow.holds Try.pinned (OpenSpec.upto fnSameIsChanceSpec)

/-- 'laws.FnMoreIsSurer', WHERE WHAT IT READS IS OF BULK AT MOST 1048576: true; the input reads as it did. -/
def fnMoreIsSurerUptoRow : OpenClaim := { program := "ytjkmgpiiamffgaa", sum := "73357b8c963f6dca22f38ac27fd28e45d484f0531389342b4c98ba3b043a8406", func := "loop.example/strategiesthatspread/laws.FnMoreIsSurer", spec := "fnMoreIsSurer", unfollowed := true, recurses := true, plainKeys := false, apart := false, narrowed := true }
def FnMoreIsSurerUptoSaid : Prop := fnMoreIsSurerUptoRow.holds Try.pinned (OpenSpec.upto fnMoreIsSurerSpec)

/-- 'laws.FnFixedOnes', WHERE WHAT IT READS IS OF BULK AT MOST 1048576: true; the input reads as it did. -/
def fnFixedOnesUptoRow : OpenClaim := { program := "ytjkmgpiiamffgaa", sum := "73357b8c963f6dca22f38ac27fd28e45d484f0531389342b4c98ba3b043a8406", func := "loop.example/strategiesthatspread/laws.FnFixedOnes", spec := "fnFixedOnes", unfollowed := true, recurses := true, plainKeys := false, apart := false, narrowed := true }
def FnFixedOnesUptoSaid : Prop := fnFixedOnesUptoRow.holds Try.pinned (OpenSpec.upto fnFixedOnesSpec)

/-- 'laws.FnCopyRing', WHERE WHAT IT READS IS OF BULK AT MOST 1048576: true; the input reads as it did. -/
def fnCopyRingUptoRow : OpenClaim := { program := "ytjkmgpiiamffgaa", sum := "73357b8c963f6dca22f38ac27fd28e45d484f0531389342b4c98ba3b043a8406", func := "loop.example/strategiesthatspread/laws.FnCopyRing", spec := "fnCopyRing", plainKeys := false, apart := false, narrowed := true }
def FnCopyRingUptoSaid : Prop := fnCopyRingUptoRow.holds Try.pinned (OpenSpec.upto fnCopyRingSpec)

/-- 'laws.FnExactCopyRing', WHERE WHAT IT READS IS OF BULK AT MOST 1048576: true; the input reads as it did. -/
def fnExactCopyRingUptoRow : OpenClaim := { program := "ytjkmgpiiamffgaa", sum := "73357b8c963f6dca22f38ac27fd28e45d484f0531389342b4c98ba3b043a8406", func := "loop.example/strategiesthatspread/laws.FnExactCopyRing", spec := "fnExactCopyRing", plainKeys := false, apart := false, narrowed := true }
def FnExactCopyRingUptoSaid : Prop := fnExactCopyRingUptoRow.holds Try.pinned (OpenSpec.upto fnExactCopyRingSpec)

/-- 'laws.FnReplyMoves', WHERE WHAT IT READS IS OF BULK AT MOST 1048576: true; the input reads as it did. -/
def fnReplyMovesUptoRow : OpenClaim := { program := "ytjkmgpiiamffgaa", sum := "73357b8c963f6dca22f38ac27fd28e45d484f0531389342b4c98ba3b043a8406", func := "loop.example/strategiesthatspread/laws.FnReplyMoves", spec := "fnReplyMoves", plainKeys := false, apart := false, narrowed := true }
def FnReplyMovesUptoSaid : Prop := fnReplyMovesUptoRow.holds Try.pinned (OpenSpec.upto fnReplyMovesSpec)

/-- 'laws.FnExactReplyMoves', WHERE WHAT IT READS IS OF BULK AT MOST 1048576: true; the input reads as it did. -/
def fnExactReplyMovesUptoRow : OpenClaim := { program := "ytjkmgpiiamffgaa", sum := "73357b8c963f6dca22f38ac27fd28e45d484f0531389342b4c98ba3b043a8406", func := "loop.example/strategiesthatspread/laws.FnExactReplyMoves", spec := "fnExactReplyMoves", plainKeys := false, apart := false, narrowed := true }
def FnExactReplyMovesUptoSaid : Prop := fnExactReplyMovesUptoRow.holds Try.pinned (OpenSpec.upto fnExactReplyMovesSpec)

/-- 'laws.FnExactRingCycle', WHERE WHAT IT READS IS OF BULK AT MOST 1048576: true; the input reads as it did. -/
def fnExactRingCycleUptoRow : OpenClaim := { program := "ytjkmgpiiamffgaa", sum := "73357b8c963f6dca22f38ac27fd28e45d484f0531389342b4c98ba3b043a8406", func := "loop.example/strategiesthatspread/laws.FnExactRingCycle", spec := "fnExactRingCycle", plainKeys := false, apart := false, narrowed := true }
def FnExactRingCycleUptoSaid : Prop := fnExactRingCycleUptoRow.holds Try.pinned (OpenSpec.upto fnExactRingCycleSpec)

/-- 'laws.FnRingCycle', WHERE WHAT IT READS IS OF BULK AT MOST 1048576: true; the input reads as it did. -/
def fnRingCycleUptoRow : OpenClaim := { program := "ytjkmgpiiamffgaa", sum := "73357b8c963f6dca22f38ac27fd28e45d484f0531389342b4c98ba3b043a8406", func := "loop.example/strategiesthatspread/laws.FnRingCycle", spec := "fnRingCycle", plainKeys := false, apart := false, narrowed := true }
def FnRingCycleUptoSaid : Prop := fnRingCycleUptoRow.holds Try.pinned (OpenSpec.upto fnRingCycleSpec)

end Rows
end Go.Proofs.Ytjkmgpiiamffgaa
