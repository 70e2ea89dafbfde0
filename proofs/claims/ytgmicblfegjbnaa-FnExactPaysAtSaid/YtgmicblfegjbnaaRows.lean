/-
  No cell of these rows narrows 'for every input' (looked for: loops, veiled, ifaces, maps, wideKeys, modest, calm, conditions, laid).
  DERIVED. THE GIVEN ROWS OF THIS SEAT. 10 by the template 'for every input the law returns true; each argument reads behind the call as it read before'; 0 by the template 'total and deterministic' (their statements: YtgmicblfegjbnaaTotals.lean).
  GIVEN WITH THE SEED: the statements are not yours to turn. If you find one false, say at which input.
  Laid BY PROGRAM, IN A SANDBOX (cutbox-rows.mjs): the forced cells as the released guide's own fill.sh prints them over the translation e8fc582cc2c0f34d… (all of the seat's roots in one cut). By AI agents, Wed Nov 11 2026. No macro, syntax, notation, axiom, sorry.
-/
import Derived.Test.YtgmicblfegjbnaaChecked
import GoSem.Claim
import GoSem.ClaimJoined
import GoSem.ClaimMapViews
import Derived.JoinedTies
import Derived.KernelRfl
namespace Go.Proofs.Ytgmicblfegjbnaa
/- THE CELL 'sum', in the pinned program and in every row, IS THE sha256 OF THE DUMP (.gsa) THAT YtgmicblfegjbnaaProg.lean LOADS. Nothing in Lean hashes anything: it is a label: what it is worth is what the hold of that sum in a sandbox is worth. -/
noncomputable def Try.pinned : Pinned := { name := "ytgmicblfegjbnaa", sum := "e8fc582cc2c0f34d19409333136798ff4e2804a694ebda063eb2625606a5ca04", checked := Try.checked }
namespace Rows
def none {H : Type} : Left H := { results := [], args := [] }

/-- 'laws.FnExactValidPair': WHATEVER THE INPUT: true; the input reads as it did. -/
def fnExactValidPairSpec : ChangeSpec := { name := "fnExactValidPair", fn := fun _ => fun
  | [d] => { results := [.lit (.bool true)], args := [d] }
  | _ => none }
def fnExactValidPairRow : OpenClaim := { program := "ytgmicblfegjbnaa", sum := "e8fc582cc2c0f34d19409333136798ff4e2804a694ebda063eb2625606a5ca04", func := "loop.example/strategiesthatspread/laws.FnExactValidPair", spec := "fnExactValidPair", apart := false }
def FnExactValidPairSaid : Prop := fnExactValidPairRow.holds Try.pinned (OpenSpec.ofChange fnExactValidPairSpec)

/-- ITS FALSE NEIGHBOUR: 'it returns false'. Refute it at one input. -/
def fnExactValidPairWrong : ChangeSpec := { name := "fnExactValidPair", fn := fun _ => fun
  | [d] => { results := [.lit (.bool false)], args := [d] }
  | _ => none }
def FnExactValidPairWrongFalsely : Prop := fnExactValidPairRow.holds Try.pinned (OpenSpec.ofChange fnExactValidPairWrong)

/-- 'laws.FnExactPaysAt': WHATEVER THE INPUT: true; the input reads as it did. -/
def fnExactPaysAtSpec : ChangeSpec := { name := "fnExactPaysAt", fn := fun _ => fun
  | [d1, d2, d3] => { results := [.lit (.bool true)], args := [d1, d2, d3] }
  | _ => none }
def fnExactPaysAtRow : OpenClaim := { program := "ytgmicblfegjbnaa", sum := "e8fc582cc2c0f34d19409333136798ff4e2804a694ebda063eb2625606a5ca04", func := "loop.example/strategiesthatspread/laws.FnExactPaysAt", spec := "fnExactPaysAt", unfollowed := true, recurses := true, apart := false }
def FnExactPaysAtSaid : Prop := fnExactPaysAtRow.holds Try.pinned (OpenSpec.ofChange fnExactPaysAtSpec)

/-- ITS FALSE NEIGHBOUR: 'it returns false'. Refute it at one input. -/
def fnExactPaysAtWrong : ChangeSpec := { name := "fnExactPaysAt", fn := fun _ => fun
  | [d1, d2, d3] => { results := [.lit (.bool false)], args := [d1, d2, d3] }
  | _ => none }
def FnExactPaysAtWrongFalsely : Prop := fnExactPaysAtRow.holds Try.pinned (OpenSpec.ofChange fnExactPaysAtWrong)

/-- 'laws.FnExactFixedFrom': WHATEVER THE INPUT: true; the input reads as it did. -/
def fnExactFixedFromSpec : ChangeSpec := { name := "fnExactFixedFrom", fn := fun _ => fun
  | [d1, d2, d3] => { results := [.lit (.bool true)], args := [d1, d2, d3] }
  | _ => none }
def fnExactFixedFromRow : OpenClaim := { program := "ytgmicblfegjbnaa", sum := "e8fc582cc2c0f34d19409333136798ff4e2804a694ebda063eb2625606a5ca04", func := "loop.example/strategiesthatspread/laws.FnExactFixedFrom", spec := "fnExactFixedFrom", unfollowed := true, recurses := true, apart := false }
def FnExactFixedFromSaid : Prop := fnExactFixedFromRow.holds Try.pinned (OpenSpec.ofChange fnExactFixedFromSpec)

/-- ITS FALSE NEIGHBOUR: 'it returns false'. Refute it at one input. -/
def fnExactFixedFromWrong : ChangeSpec := { name := "fnExactFixedFrom", fn := fun _ => fun
  | [d1, d2, d3] => { results := [.lit (.bool false)], args := [d1, d2, d3] }
  | _ => none }
def FnExactFixedFromWrongFalsely : Prop := fnExactFixedFromRow.holds Try.pinned (OpenSpec.ofChange fnExactFixedFromWrong)

/-- 'laws.FnExactFixedOnes': WHATEVER THE INPUT: true; the input reads as it did. -/
def fnExactFixedOnesSpec : ChangeSpec := { name := "fnExactFixedOnes", fn := fun _ => fun
  | [d1, d2] => { results := [.lit (.bool true)], args := [d1, d2] }
  | _ => none }
def fnExactFixedOnesRow : OpenClaim := { program := "ytgmicblfegjbnaa", sum := "e8fc582cc2c0f34d19409333136798ff4e2804a694ebda063eb2625606a5ca04", func := "loop.example/strategiesthatspread/laws.FnExactFixedOnes", spec := "fnExactFixedOnes", unfollowed := true, recurses := true, apart := false }
def FnExactFixedOnesSaid : Prop := fnExactFixedOnesRow.holds Try.pinned (OpenSpec.ofChange fnExactFixedOnesSpec)

/-- ITS FALSE NEIGHBOUR: 'it returns false'. Refute it at one input. -/
def fnExactFixedOnesWrong : ChangeSpec := { name := "fnExactFixedOnes", fn := fun _ => fun
  | [d1, d2] => { results := [.lit (.bool false)], args := [d1, d2] }
  | _ => none }
def FnExactFixedOnesWrongFalsely : Prop := fnExactFixedOnesRow.holds Try.pinned (OpenSpec.ofChange fnExactFixedOnesWrong)

/-- 'laws.FnExactFavourOf': WHATEVER THE INPUT: true; the input reads as it did. -/
def fnExactFavourOfSpec : ChangeSpec := { name := "fnExactFavourOf", fn := fun _ => fun
  | [d1, d2] => { results := [.lit (.bool true)], args := [d1, d2] }
  | _ => none }
def fnExactFavourOfRow : OpenClaim := { program := "ytgmicblfegjbnaa", sum := "e8fc582cc2c0f34d19409333136798ff4e2804a694ebda063eb2625606a5ca04", func := "loop.example/strategiesthatspread/laws.FnExactFavourOf", spec := "fnExactFavourOf", unfollowed := true, recurses := true, apart := false }
def FnExactFavourOfSaid : Prop := fnExactFavourOfRow.holds Try.pinned (OpenSpec.ofChange fnExactFavourOfSpec)

/-- ITS FALSE NEIGHBOUR: 'it returns false'. Refute it at one input. -/
def fnExactFavourOfWrong : ChangeSpec := { name := "fnExactFavourOf", fn := fun _ => fun
  | [d1, d2] => { results := [.lit (.bool false)], args := [d1, d2] }
  | _ => none }
def FnExactFavourOfWrongFalsely : Prop := fnExactFavourOfRow.holds Try.pinned (OpenSpec.ofChange fnExactFavourOfWrong)

/-- 'laws.FnExactOddsOf': WHATEVER THE INPUT: true; the input reads as it did. -/
def fnExactOddsOfSpec : ChangeSpec := { name := "fnExactOddsOf", fn := fun _ => fun
  | [d1, d2] => { results := [.lit (.bool true)], args := [d1, d2] }
  | _ => none }
def fnExactOddsOfRow : OpenClaim := { program := "ytgmicblfegjbnaa", sum := "e8fc582cc2c0f34d19409333136798ff4e2804a694ebda063eb2625606a5ca04", func := "loop.example/strategiesthatspread/laws.FnExactOddsOf", spec := "fnExactOddsOf", unfollowed := true, recurses := true, apart := false }
def FnExactOddsOfSaid : Prop := fnExactOddsOfRow.holds Try.pinned (OpenSpec.ofChange fnExactOddsOfSpec)

/-- ITS FALSE NEIGHBOUR: 'it returns false'. Refute it at one input. -/
def fnExactOddsOfWrong : ChangeSpec := { name := "fnExactOddsOf", fn := fun _ => fun
  | [d1, d2] => { results := [.lit (.bool false)], args := [d1, d2] }
  | _ => none }
def FnExactOddsOfWrongFalsely : Prop := fnExactOddsOfRow.holds Try.pinned (OpenSpec.ofChange fnExactOddsOfWrong)

/-- 'laws.FnValidPair': WHATEVER THE INPUT: true; the input reads as it did. -/
def fnValidPairSpec : ChangeSpec := { name := "fnValidPair", fn := fun _ => fun
  | [d] => { results := [.lit (.bool true)], args := [d] }
  | _ => none }
def fnValidPairRow : OpenClaim := { program := "ytgmicblfegjbnaa", sum := "e8fc582cc2c0f34d19409333136798ff4e2804a694ebda063eb2625606a5ca04", func := "loop.example/strategiesthatspread/laws.FnValidPair", spec := "fnValidPair", apart := false }
def FnValidPairSaid : Prop := fnValidPairRow.holds Try.pinned (OpenSpec.ofChange fnValidPairSpec)

/-- ITS FALSE NEIGHBOUR: 'it returns false'. Refute it at one input. -/
def fnValidPairWrong : ChangeSpec := { name := "fnValidPair", fn := fun _ => fun
  | [d] => { results := [.lit (.bool false)], args := [d] }
  | _ => none }
def FnValidPairWrongFalsely : Prop := fnValidPairRow.holds Try.pinned (OpenSpec.ofChange fnValidPairWrong)

/-- 'laws.FnPaysAt': WHATEVER THE INPUT: true; the input reads as it did. -/
def fnPaysAtSpec : ChangeSpec := { name := "fnPaysAt", fn := fun _ => fun
  | [d] => { results := [.lit (.bool true)], args := [d] }
  | _ => none }
def fnPaysAtRow : OpenClaim := { program := "ytgmicblfegjbnaa", sum := "e8fc582cc2c0f34d19409333136798ff4e2804a694ebda063eb2625606a5ca04", func := "loop.example/strategiesthatspread/laws.FnPaysAt", spec := "fnPaysAt", unfollowed := true, recurses := true, apart := false }
def FnPaysAtSaid : Prop := fnPaysAtRow.holds Try.pinned (OpenSpec.ofChange fnPaysAtSpec)

/-- ITS FALSE NEIGHBOUR: 'it returns false'. Refute it at one input. -/
def fnPaysAtWrong : ChangeSpec := { name := "fnPaysAt", fn := fun _ => fun
  | [d] => { results := [.lit (.bool false)], args := [d] }
  | _ => none }
def FnPaysAtWrongFalsely : Prop := fnPaysAtRow.holds Try.pinned (OpenSpec.ofChange fnPaysAtWrong)

/-- 'laws.FnFixedFrom': WHATEVER THE INPUT: true; the input reads as it did. -/
def fnFixedFromSpec : ChangeSpec := { name := "fnFixedFrom", fn := fun _ => fun
  | [d] => { results := [.lit (.bool true)], args := [d] }
  | _ => none }
def fnFixedFromRow : OpenClaim := { program := "ytgmicblfegjbnaa", sum := "e8fc582cc2c0f34d19409333136798ff4e2804a694ebda063eb2625606a5ca04", func := "loop.example/strategiesthatspread/laws.FnFixedFrom", spec := "fnFixedFrom", unfollowed := true, recurses := true, apart := false }
def FnFixedFromSaid : Prop := fnFixedFromRow.holds Try.pinned (OpenSpec.ofChange fnFixedFromSpec)

/-- ITS FALSE NEIGHBOUR: 'it returns false'. Refute it at one input. -/
def fnFixedFromWrong : ChangeSpec := { name := "fnFixedFrom", fn := fun _ => fun
  | [d] => { results := [.lit (.bool false)], args := [d] }
  | _ => none }
def FnFixedFromWrongFalsely : Prop := fnFixedFromRow.holds Try.pinned (OpenSpec.ofChange fnFixedFromWrong)

/-- 'laws.FnFavourOf': WHATEVER THE INPUT: true; the input reads as it did. -/
def fnFavourOfSpec : ChangeSpec := { name := "fnFavourOf", fn := fun _ => fun
  | [d] => { results := [.lit (.bool true)], args := [d] }
  | _ => none }
def fnFavourOfRow : OpenClaim := { program := "ytgmicblfegjbnaa", sum := "e8fc582cc2c0f34d19409333136798ff4e2804a694ebda063eb2625606a5ca04", func := "loop.example/strategiesthatspread/laws.FnFavourOf", spec := "fnFavourOf", unfollowed := true, recurses := true, apart := false }
def FnFavourOfSaid : Prop := fnFavourOfRow.holds Try.pinned (OpenSpec.ofChange fnFavourOfSpec)

/-- ITS FALSE NEIGHBOUR: 'it returns false'. Refute it at one input. -/
def fnFavourOfWrong : ChangeSpec := { name := "fnFavourOf", fn := fun _ => fun
  | [d] => { results := [.lit (.bool false)], args := [d] }
  | _ => none }
def FnFavourOfWrongFalsely : Prop := fnFavourOfRow.holds Try.pinned (OpenSpec.ofChange fnFavourOfWrong)

/- THE SECOND FORM. 'bulk': how many values and letters a reading holds, each counted each time it is reached (what is shared counts as often as it is met; a slice's spare places count too). A statement '..UptoSaid' is the law's where the arguments, and the package variables that the reading takes, are together of bulk at most 1048576: NARROWER than '..Said'. Prove '..Said' where nothing that the law and all that it calls make is longer than what came in: it says more and counts as full. Else prove '..UptoSaid'. A law counts once. -/
mutual
def uptoBulk {H : Type} : DataW H → Nat
  | .lit (.string bytes) => bytes.length + 1
  | .lit _ => 1
  | .nil => 1
  | .ptr d => uptoBulk d + 1
  | .slice elems spare => uptoBulkAll elems + uptoBulkAll spare + 1
  | .agg parts => uptoBulkAll parts + 1
  | .iface _ d => uptoBulk d + 1
  | .map entries => uptoBulkEntries entries + 1
  | .held _ => 1
def uptoBulkAll {H : Type} : List (DataW H) → Nat
  | [] => 0
  | d :: r => uptoBulk d + uptoBulkAll r
def uptoBulkEntries {H : Type} : List (Lit × DataW H) → Nat
  | [] => 0
  | x :: r => uptoBulkEntry x + uptoBulkEntries r
def uptoBulkEntry {H : Type} : Lit × DataW H → Nat
  | (.string bytes, d) => bytes.length + uptoBulk d + 1
  | (_, d) => uptoBulk d + 1
 end
def uptoSmall : (H : Type) → List (DataW H) → Bool := fun _ ds => decide (uptoBulkAll ds ≤ 1048576)
def OpenSpec.upto (s : _root_.Go.ChangeSpec) : _root_.Go.OpenSpec := { _root_.Go.OpenSpec.ofChange s with cond := some uptoSmall }

/-- 'laws.FnExactValidPair', WHERE WHAT IT READS IS OF BULK AT MOST 1048576: true; the input reads as it did. -/
def fnExactValidPairUptoRow : OpenClaim := { program := "ytgmicblfegjbnaa", sum := "e8fc582cc2c0f34d19409333136798ff4e2804a694ebda063eb2625606a5ca04", func := "loop.example/strategiesthatspread/laws.FnExactValidPair", spec := "fnExactValidPair", apart := false, narrowed := true }
def FnExactValidPairUptoSaid : Prop := fnExactValidPairUptoRow.holds Try.pinned (OpenSpec.upto fnExactValidPairSpec)

/-- 'laws.FnExactPaysAt', WHERE WHAT IT READS IS OF BULK AT MOST 1048576: true; the input reads as it did. -/
def fnExactPaysAtUptoRow : OpenClaim := { program := "ytgmicblfegjbnaa", sum := "e8fc582cc2c0f34d19409333136798ff4e2804a694ebda063eb2625606a5ca04", func := "loop.example/strategiesthatspread/laws.FnExactPaysAt", spec := "fnExactPaysAt", unfollowed := true, recurses := true, apart := false, narrowed := true }
def FnExactPaysAtUptoSaid : Prop := fnExactPaysAtUptoRow.holds Try.pinned (OpenSpec.upto fnExactPaysAtSpec)

/-- 'laws.FnExactFixedFrom', WHERE WHAT IT READS IS OF BULK AT MOST 1048576: true; the input reads as it did. -/
def fnExactFixedFromUptoRow : OpenClaim := { program := "ytgmicblfegjbnaa", sum := "e8fc582cc2c0f34d19409333136798ff4e2804a694ebda063eb2625606a5ca04", func := "loop.example/strategiesthatspread/laws.FnExactFixedFrom", spec := "fnExactFixedFrom", unfollowed := true, recurses := true, apart := false, narrowed := true }
def FnExactFixedFromUptoSaid : Prop := fnExactFixedFromUptoRow.holds Try.pinned (OpenSpec.upto fnExactFixedFromSpec)

/-- 'laws.FnExactFixedOnes', WHERE WHAT IT READS IS OF BULK AT MOST 1048576: true; the input reads as it did. -/
def fnExactFixedOnesUptoRow : OpenClaim := { program := "ytgmicblfegjbnaa", sum := "e8fc582cc2c0f34d19409333136798ff4e2804a694ebda063eb2625606a5ca04", func := "loop.example/strategiesthatspread/laws.FnExactFixedOnes", spec := "fnExactFixedOnes", unfollowed := true, recurses := true, apart := false, narrowed := true }
def FnExactFixedOnesUptoSaid : Prop := fnExactFixedOnesUptoRow.holds Try.pinned (OpenSpec.upto fnExactFixedOnesSpec)

/-- 'laws.FnExactFavourOf', WHERE WHAT IT READS IS OF BULK AT MOST 1048576: true; the input reads as it did. -/
def fnExactFavourOfUptoRow : OpenClaim := { program := "ytgmicblfegjbnaa", sum := "e8fc582cc2c0f34d19409333136798ff4e2804a694ebda063eb2625606a5ca04", func := "loop.example/strategiesthatspread/laws.FnExactFavourOf", spec := "fnExactFavourOf", unfollowed := true, recurses := true, apart := false, narrowed := true }
def FnExactFavourOfUptoSaid : Prop := fnExactFavourOfUptoRow.holds Try.pinned (OpenSpec.upto fnExactFavourOfSpec)

/-- 'laws.FnExactOddsOf', WHERE WHAT IT READS IS OF BULK AT MOST 1048576: true; the input reads as it did. -/
def fnExactOddsOfUptoRow : OpenClaim := { program := "ytgmicblfegjbnaa", sum := "e8fc582cc2c0f34d19409333136798ff4e2804a694ebda063eb2625606a5ca04", func := "loop.example/strategiesthatspread/laws.FnExactOddsOf", spec := "fnExactOddsOf", unfollowed := true, recurses := true, apart := false, narrowed := true }
def FnExactOddsOfUptoSaid : Prop := fnExactOddsOfUptoRow.holds Try.pinned (OpenSpec.upto fnExactOddsOfSpec)

/-- 'laws.FnValidPair', WHERE WHAT IT READS IS OF BULK AT MOST 1048576: true; the input reads as it did. -/
def fnValidPairUptoRow : OpenClaim := { program := "ytgmicblfegjbnaa", sum := "e8fc582cc2c0f34d19409333136798ff4e2804a694ebda063eb2625606a5ca04", func := "loop.example/strategiesthatspread/laws.FnValidPair", spec := "fnValidPair", apart := false, narrowed := true }
def FnValidPairUptoSaid : Prop := fnValidPairUptoRow.holds Try.pinned (OpenSpec.upto fnValidPairSpec)

/-- 'laws.FnPaysAt', WHERE WHAT IT READS IS OF BULK AT MOST 1048576: true; the input reads as it did. -/
def fnPaysAtUptoRow : OpenClaim := { program := "ytgmicblfegjbnaa", sum := "e8fc582cc2c0f34d19409333136798ff4e2804a694ebda063eb2625606a5ca04", func := "loop.example/strategiesthatspread/laws.FnPaysAt", spec := "fnPaysAt", unfollowed := true, recurses := true, apart := false, narrowed := true }
def FnPaysAtUptoSaid : Prop := fnPaysAtUptoRow.holds Try.pinned (OpenSpec.upto fnPaysAtSpec)

/-- 'laws.FnFixedFrom', WHERE WHAT IT READS IS OF BULK AT MOST 1048576: true; the input reads as it did. -/
def fnFixedFromUptoRow : OpenClaim := { program := "ytgmicblfegjbnaa", sum := "e8fc582cc2c0f34d19409333136798ff4e2804a694ebda063eb2625606a5ca04", func := "loop.example/strategiesthatspread/laws.FnFixedFrom", spec := "fnFixedFrom", unfollowed := true, recurses := true, apart := false, narrowed := true }
def FnFixedFromUptoSaid : Prop := fnFixedFromUptoRow.holds Try.pinned (OpenSpec.upto fnFixedFromSpec)

/-- 'laws.FnFavourOf', WHERE WHAT IT READS IS OF BULK AT MOST 1048576: true; the input reads as it did. -/
def fnFavourOfUptoRow : OpenClaim := { program := "ytgmicblfegjbnaa", sum := "e8fc582cc2c0f34d19409333136798ff4e2804a694ebda063eb2625606a5ca04", func := "loop.example/strategiesthatspread/laws.FnFavourOf", spec := "fnFavourOf", unfollowed := true, recurses := true, apart := false, narrowed := true }
def FnFavourOfUptoSaid : Prop := fnFavourOfUptoRow.holds Try.pinned (OpenSpec.upto fnFavourOfSpec)

end Rows
end Go.Proofs.Ytgmicblfegjbnaa
