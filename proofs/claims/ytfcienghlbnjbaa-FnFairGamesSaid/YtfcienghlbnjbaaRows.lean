/-
  No cell of these rows narrows 'for every input' (looked for: loops, veiled, ifaces, maps, wideKeys, modest, calm, conditions, laid).
  DERIVED. THE GIVEN ROWS OF THIS SEAT. 4 by the template 'for every input the law returns true; each argument reads behind the call as it read before'; 0 by the template 'total and deterministic' (their statements: YtfcienghlbnjbaaTotals.lean).
  GIVEN WITH THE SEED: the statements are not yours to turn. If you find one false, say at which input.
  Laid BY PROGRAM, IN A SANDBOX (cutbox-rows.mjs): the forced cells as the released guide's own fill.sh prints them over the translation 7d7803ec2d0d75b7… (all of the seat's roots in one cut). By AI agents, Wed Nov 11 2026. No macro, syntax, notation, axiom, sorry.
-/
import Derived.Test.YtfcienghlbnjbaaChecked
import GoSem.Claim
import GoSem.ClaimJoined
import GoSem.ClaimMapViews
import Derived.JoinedTies
import Derived.KernelRfl
namespace Go.Proofs.Ytfcienghlbnjbaa
/- THE CELL 'sum', in the pinned program and in every row, IS THE sha256 OF THE DUMP (.gsa) THAT YtfcienghlbnjbaaProg.lean LOADS. Nothing in Lean hashes anything: it is a label: what it is worth is what the hold of that sum in a sandbox is worth. -/
noncomputable def Try.pinned : Pinned := { name := "ytfcienghlbnjbaa", sum := "7d7803ec2d0d75b7fc9c52d30894838899ffedebda6dbb7ca42398e20eed8654", checked := Try.checked }
namespace Rows
def none {H : Type} : Left H := { results := [], args := [] }

/-- 'laws.FnIsRest': WHATEVER THE INPUT: true; the input reads as it did. -/
def fnIsRestSpec : ChangeSpec := { name := "fnIsRest", fn := fun _ => fun
  | [d] => { results := [.lit (.bool true)], args := [d] }
  | _ => none }
def fnIsRestRow : OpenClaim := { program := "ytfcienghlbnjbaa", sum := "7d7803ec2d0d75b7fc9c52d30894838899ffedebda6dbb7ca42398e20eed8654", func := "loop.example/strategiesthatspread/laws.FnIsRest", spec := "fnIsRest", unfollowed := true, recurses := true, apart := false }
def FnIsRestSaid : Prop := fnIsRestRow.holds Try.pinned (OpenSpec.ofChange fnIsRestSpec)

/-- ITS FALSE NEIGHBOUR: 'it returns false'. Refute it at one input. -/
def fnIsRestWrong : ChangeSpec := { name := "fnIsRest", fn := fun _ => fun
  | [d] => { results := [.lit (.bool false)], args := [d] }
  | _ => none }
def FnIsRestWrongFalsely : Prop := fnIsRestRow.holds Try.pinned (OpenSpec.ofChange fnIsRestWrong)

/-- 'laws.FnRestsOn': WHATEVER THE INPUT: true; the input reads as it did. -/
def fnRestsOnSpec : ChangeSpec := { name := "fnRestsOn", fn := fun _ => fun
  | [d] => { results := [.lit (.bool true)], args := [d] }
  | _ => none }
def fnRestsOnRow : OpenClaim := { program := "ytfcienghlbnjbaa", sum := "7d7803ec2d0d75b7fc9c52d30894838899ffedebda6dbb7ca42398e20eed8654", func := "loop.example/strategiesthatspread/laws.FnRestsOn", spec := "fnRestsOn", unfollowed := true, recurses := true, apart := false }
def FnRestsOnSaid : Prop := fnRestsOnRow.holds Try.pinned (OpenSpec.ofChange fnRestsOnSpec)

/-- ITS FALSE NEIGHBOUR: 'it returns false'. Refute it at one input. -/
def fnRestsOnWrong : ChangeSpec := { name := "fnRestsOn", fn := fun _ => fun
  | [d] => { results := [.lit (.bool false)], args := [d] }
  | _ => none }
def FnRestsOnWrongFalsely : Prop := fnRestsOnRow.holds Try.pinned (OpenSpec.ofChange fnRestsOnWrong)

/-- 'laws.FnRestsOfOne': WHATEVER THE INPUT: true; the input reads as it did. -/
def fnRestsOfOneSpec : ChangeSpec := { name := "fnRestsOfOne", fn := fun _ => fun
  | [d] => { results := [.lit (.bool true)], args := [d] }
  | _ => none }
def fnRestsOfOneRow : OpenClaim := { program := "ytfcienghlbnjbaa", sum := "7d7803ec2d0d75b7fc9c52d30894838899ffedebda6dbb7ca42398e20eed8654", func := "loop.example/strategiesthatspread/laws.FnRestsOfOne", spec := "fnRestsOfOne", unfollowed := true, recurses := true, apart := false }
def FnRestsOfOneSaid : Prop := fnRestsOfOneRow.holds Try.pinned (OpenSpec.ofChange fnRestsOfOneSpec)

/-- ITS FALSE NEIGHBOUR: 'it returns false'. Refute it at one input. -/
def fnRestsOfOneWrong : ChangeSpec := { name := "fnRestsOfOne", fn := fun _ => fun
  | [d] => { results := [.lit (.bool false)], args := [d] }
  | _ => none }
def FnRestsOfOneWrongFalsely : Prop := fnRestsOfOneRow.holds Try.pinned (OpenSpec.ofChange fnRestsOfOneWrong)

/-- 'laws.FnFairGames': WHATEVER THE INPUT: true; the input reads as it did. -/
def fnFairGamesSpec : ChangeSpec := { name := "fnFairGames", fn := fun _ => fun
  | [d] => { results := [.lit (.bool true)], args := [d] }
  | _ => none }
def fnFairGamesRow : OpenClaim := { program := "ytfcienghlbnjbaa", sum := "7d7803ec2d0d75b7fc9c52d30894838899ffedebda6dbb7ca42398e20eed8654", func := "loop.example/strategiesthatspread/laws.FnFairGames", spec := "fnFairGames", recurses := true, apart := false }
def FnFairGamesSaid : Prop := fnFairGamesRow.holds Try.pinned (OpenSpec.ofChange fnFairGamesSpec)

/-- ITS FALSE NEIGHBOUR: 'it returns false'. Refute it at one input. -/
def fnFairGamesWrong : ChangeSpec := { name := "fnFairGames", fn := fun _ => fun
  | [d] => { results := [.lit (.bool false)], args := [d] }
  | _ => none }
def FnFairGamesWrongFalsely : Prop := fnFairGamesRow.holds Try.pinned (OpenSpec.ofChange fnFairGamesWrong)

/- THE SECOND FORM. 'bulk': how many values and letters a reading holds, each counted each time it is reached (what is shared counts as often as it is met; a slice's spare places count too). A statement '..UptoSaid' is the law's where the arguments, and the package variables that the reading takes, are together of bulk at most 1048576: NARROWER than '..Said'. Prove '..Said' where nothing that the law and all that it calls make is longer than what came in: it says more and counts as full. Else prove '..UptoSaid'. A law counts once. -/
mutual
def uptoBulk {H : Type} : DataW H → Nat
  | .lit (.string bytes) => bytes.length + 1
  | .lit _ => 1
  | .nil => 1
  | .ptr d => uptoBulk d + 1
  | .slice elems spare => uptoBulkAll elems + uptoBulkAll spare + 1
  | .agg parts => uptoBulkAll parts + 1
  | .iface _ d => uptoBulk d + 1
  | .map entries => uptoBulkEntries entries + 1
  | .held _ => 1
def uptoBulkAll {H : Type} : List (DataW H) → Nat
  | [] => 0
  | d :: r => uptoBulk d + uptoBulkAll r
def uptoBulkEntries {H : Type} : List (Lit × DataW H) → Nat
  | [] => 0
  | x :: r => uptoBulkEntry x + uptoBulkEntries r
def uptoBulkEntry {H : Type} : Lit × DataW H → Nat
  | (.string bytes, d) => bytes.length + uptoBulk d + 1
  | (_, d) => uptoBulk d + 1
 end
def uptoSmall : (H : Type) → List (DataW H) → Bool := fun _ ds => decide (uptoBulkAll ds ≤ 1048576)
def OpenSpec.upto (s : _root_.Go.ChangeSpec) : _root_.Go.OpenSpec := { _root_.Go.OpenSpec.ofChange s with cond := some uptoSmall }

/-- 'laws.FnIsRest', WHERE WHAT IT READS IS OF BULK AT MOST 1048576: true; the input reads as it did. -/
def fnIsRestUptoRow : OpenClaim := { program := "ytfcienghlbnjbaa", sum := "7d7803ec2d0d75b7fc9c52d30894838899ffedebda6dbb7ca42398e20eed8654", func := "loop.example/strategiesthatspread/laws.FnIsRest", spec := "fnIsRest", unfollowed := true, recurses := true, apart := false, narrowed := true }
def FnIsRestUptoSaid : Prop := fnIsRestUptoRow.holds Try.pinned (OpenSpec.upto fnIsRestSpec)

/-- 'laws.FnRestsOn', WHERE WHAT IT READS IS OF BULK AT MOST 1048576: true; the input reads as it did. -/
def fnRestsOnUptoRow : OpenClaim := { program := "ytfcienghlbnjbaa", sum := "7d7803ec2d0d75b7fc9c52d30894838899ffedebda6dbb7ca42398e20eed8654", func := "loop.example/strategiesthatspread/laws.FnRestsOn", spec := "fnRestsOn", unfollowed := true, recurses := true, apart := false, narrowed := true }
def FnRestsOnUptoSaid : Prop := fnRestsOnUptoRow.holds Try.pinned (OpenSpec.upto fnRestsOnSpec)

/-- 'laws.FnRestsOfOne', WHERE WHAT IT READS IS OF BULK AT MOST 1048576: true; the input reads as it did. -/
def fnRestsOfOneUptoRow : OpenClaim := { program := "ytfcienghlbnjbaa", sum := "7d7803ec2d0d75b7fc9c52d30894838899ffedebda6dbb7ca42398e20eed8654", func := "loop.example/strategiesthatspread/laws.FnRestsOfOne", spec := "fnRestsOfOne", unfollowed := true, recurses := true, apart := false, narrowed := true }
def FnRestsOfOneUptoSaid : Prop := fnRestsOfOneUptoRow.holds Try.pinned (OpenSpec.upto fnRestsOfOneSpec)

/-- 'laws.FnFairGames', WHERE WHAT IT READS IS OF BULK AT MOST 1048576: true; the input reads as it did. -/
def fnFairGamesUptoRow : OpenClaim := { program := "ytfcienghlbnjbaa", sum := "7d7803ec2d0d75b7fc9c52d30894838899ffedebda6dbb7ca42398e20eed8654", func := "loop.example/strategiesthatspread/laws.FnFairGames", spec := "fnFairGames", recurses := true, apart := false, narrowed := true }
def FnFairGamesUptoSaid : Prop := fnFairGamesUptoRow.holds Try.pinned (OpenSpec.upto fnFairGamesSpec)

end Rows
end Go.Proofs.Ytfcienghlbnjbaa
