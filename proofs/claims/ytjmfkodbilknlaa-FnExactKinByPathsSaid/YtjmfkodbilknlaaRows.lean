/-
  No cell of these rows narrows 'for every input' (looked for: loops, veiled, ifaces, maps, wideKeys, modest, calm, conditions, laid).
  DERIVED. THE GIVEN ROWS OF THIS SEAT. 5 by the template 'for every input the law returns true; each argument reads behind the call as it read before'; 0 by the template 'total and deterministic' (their statements: YtjmfkodbilknlaaTotals.lean).
  GIVEN WITH THE SEED: the statements are not yours to turn. If you find one false, say at which input.
  Laid BY PROGRAM, IN A SANDBOX (cutbox-rows.mjs): the forced cells as the released guide's own fill.sh prints them over the translation 310bc991d786674c… (all of the seat's roots in one cut). By AI agents, Wed Nov 11 2026. No macro, syntax, notation, axiom, sorry.
-/
import Derived.Test.YtjmfkodbilknlaaChecked
import GoSem.Claim
import GoSem.ClaimJoined
import GoSem.ClaimMapViews
import Derived.JoinedTies
import Derived.KernelRfl
namespace Go.Proofs.Ytjmfkodbilknlaa
/- THE CELL 'sum', in the pinned program and in every row, IS THE sha256 OF THE DUMP (.gsa) THAT YtjmfkodbilknlaaProg.lean LOADS. Nothing in Lean hashes anything: it is a label: what it is worth is what the hold of that sum in a sandbox is worth. -/
noncomputable def Try.pinned : Pinned := { name := "ytjmfkodbilknlaa", sum := "310bc991d786674c191f3d8bf394fa2f683d1ae4045e26ecc100d5d982ca7137", checked := Try.checked }
namespace Rows
def none {H : Type} : Left H := { results := [], args := [] }

/-- 'laws.FnExactKinByPaths': WHATEVER THE INPUT: true; the input reads as it did. -/
def fnExactKinByPathsSpec : ChangeSpec := { name := "fnExactKinByPaths", fn := fun _ => fun
  | [d1, d2, d3] => { results := [.lit (.bool true)], args := [d1, d2, d3] }
  | _ => none }
def fnExactKinByPathsRow : OpenClaim := { program := "ytjmfkodbilknlaa", sum := "310bc991d786674c191f3d8bf394fa2f683d1ae4045e26ecc100d5d982ca7137", func := "loop.example/strategiesthatspread/laws.FnExactKinByPaths", spec := "fnExactKinByPaths", unfollowed := true, recurses := true, apart := false }
def FnExactKinByPathsSaid : Prop := fnExactKinByPathsRow.holds Try.pinned (OpenSpec.ofChange fnExactKinByPathsSpec)

/-- ITS FALSE NEIGHBOUR: 'it returns false'. Refute it at one input. -/
def fnExactKinByPathsWrong : ChangeSpec := { name := "fnExactKinByPaths", fn := fun _ => fun
  | [d1, d2, d3] => { results := [.lit (.bool false)], args := [d1, d2, d3] }
  | _ => none }
def FnExactKinByPathsWrongFalsely : Prop := fnExactKinByPathsRow.holds Try.pinned (OpenSpec.ofChange fnExactKinByPathsWrong)

/-- 'laws.FnKinOf': WHATEVER THE INPUT: true; the input reads as it did. -/
def fnKinOfSpec : ChangeSpec := { name := "fnKinOf", fn := fun _ => fun
  | [d] => { results := [.lit (.bool true)], args := [d] }
  | _ => none }
def fnKinOfRow : OpenClaim := { program := "ytjmfkodbilknlaa", sum := "310bc991d786674c191f3d8bf394fa2f683d1ae4045e26ecc100d5d982ca7137", func := "loop.example/strategiesthatspread/laws.FnKinOf", spec := "fnKinOf", unfollowed := true, recurses := true, apart := false }
def FnKinOfSaid : Prop := fnKinOfRow.holds Try.pinned (OpenSpec.ofChange fnKinOfSpec)

/-- ITS FALSE NEIGHBOUR: 'it returns false'. Refute it at one input. -/
def fnKinOfWrong : ChangeSpec := { name := "fnKinOf", fn := fun _ => fun
  | [d] => { results := [.lit (.bool false)], args := [d] }
  | _ => none }
def FnKinOfWrongFalsely : Prop := fnKinOfRow.holds Try.pinned (OpenSpec.ofChange fnKinOfWrong)

/-- 'laws.FnKinByPaths': WHATEVER THE INPUT: true; the input reads as it did. -/
def fnKinByPathsSpec : ChangeSpec := { name := "fnKinByPaths", fn := fun _ => fun
  | [d] => { results := [.lit (.bool true)], args := [d] }
  | _ => none }
def fnKinByPathsRow : OpenClaim := { program := "ytjmfkodbilknlaa", sum := "310bc991d786674c191f3d8bf394fa2f683d1ae4045e26ecc100d5d982ca7137", func := "loop.example/strategiesthatspread/laws.FnKinByPaths", spec := "fnKinByPaths", unfollowed := true, recurses := true, apart := false }
def FnKinByPathsSaid : Prop := fnKinByPathsRow.holds Try.pinned (OpenSpec.ofChange fnKinByPathsSpec)

/-- ITS FALSE NEIGHBOUR: 'it returns false'. Refute it at one input. -/
def fnKinByPathsWrong : ChangeSpec := { name := "fnKinByPaths", fn := fun _ => fun
  | [d] => { results := [.lit (.bool false)], args := [d] }
  | _ => none }
def FnKinByPathsWrongFalsely : Prop := fnKinByPathsRow.holds Try.pinned (OpenSpec.ofChange fnKinByPathsWrong)

/-- 'laws.FnExactEndsAlways': WHATEVER THE INPUT: true; the input reads as it did. -/
def fnExactEndsAlwaysSpec : ChangeSpec := { name := "fnExactEndsAlways", fn := fun _ => fun
  | [d] => { results := [.lit (.bool true)], args := [d] }
  | _ => none }
def fnExactEndsAlwaysRow : OpenClaim := { program := "ytjmfkodbilknlaa", sum := "310bc991d786674c191f3d8bf394fa2f683d1ae4045e26ecc100d5d982ca7137", func := "loop.example/strategiesthatspread/laws.FnExactEndsAlways", spec := "fnExactEndsAlways", recurses := true, apart := false }
def FnExactEndsAlwaysSaid : Prop := fnExactEndsAlwaysRow.holds Try.pinned (OpenSpec.ofChange fnExactEndsAlwaysSpec)

/-- ITS FALSE NEIGHBOUR: 'it returns false'. Refute it at one input. -/
def fnExactEndsAlwaysWrong : ChangeSpec := { name := "fnExactEndsAlways", fn := fun _ => fun
  | [d] => { results := [.lit (.bool false)], args := [d] }
  | _ => none }
def FnExactEndsAlwaysWrongFalsely : Prop := fnExactEndsAlwaysRow.holds Try.pinned (OpenSpec.ofChange fnExactEndsAlwaysWrong)

/-- 'laws.FnEndsAlways': WHATEVER THE INPUT: true; the input reads as it did. -/
def fnEndsAlwaysSpec : ChangeSpec := { name := "fnEndsAlways", fn := fun _ => fun
  | [d] => { results := [.lit (.bool true)], args := [d] }
  | _ => none }
def fnEndsAlwaysRow : OpenClaim := { program := "ytjmfkodbilknlaa", sum := "310bc991d786674c191f3d8bf394fa2f683d1ae4045e26ecc100d5d982ca7137", func := "loop.example/strategiesthatspread/laws.FnEndsAlways", spec := "fnEndsAlways", recurses := true, apart := false }
def FnEndsAlwaysSaid : Prop := fnEndsAlwaysRow.holds Try.pinned (OpenSpec.ofChange fnEndsAlwaysSpec)

/-- ITS FALSE NEIGHBOUR: 'it returns false'. Refute it at one input. -/
def fnEndsAlwaysWrong : ChangeSpec := { name := "fnEndsAlways", fn := fun _ => fun
  | [d] => { results := [.lit (.bool false)], args := [d] }
  | _ => none }
def FnEndsAlwaysWrongFalsely : Prop := fnEndsAlwaysRow.holds Try.pinned (OpenSpec.ofChange fnEndsAlwaysWrong)

/- THE SECOND FORM. 'bulk': how many values and letters a reading holds, each counted each time it is reached (what is shared counts as often as it is met; a slice's spare places count too). A statement '..UptoSaid' is the law's where the arguments, and the package variables that the reading takes, are together of bulk at most 1048576: NARROWER than '..Said'. Prove '..Said' where nothing that the law and all that it calls make is longer than what came in: it says more and counts as full. Else prove '..UptoSaid'. A law counts once. -/
mutual
def uptoBulk {H : Type} : DataW H → Nat
  | .lit (.string bytes) => bytes.length + 1
  | .lit _ => 1
  | .nil => 1
  | .ptr d => uptoBulk d + 1
  | .slice elems spare => uptoBulkAll elems + uptoBulkAll spare + 1
  | .agg parts => uptoBulkAll parts + 1
  | .iface _ d => uptoBulk d + 1
  | .map entries => uptoBulkEntries entries + 1
  | .held _ => 1
def uptoBulkAll {H : Type} : List (DataW H) → Nat
  | [] => 0
  | d :: r => uptoBulk d + uptoBulkAll r
def uptoBulkEntries {H : Type} : List (Lit × DataW H) → Nat
  | [] => 0
  | x :: r => uptoBulkEntry x + uptoBulkEntries r
def uptoBulkEntry {H : Type} : Lit × DataW H → Nat
  | (.string bytes, d) => bytes.length + uptoBulk d + 1
  | (_, d) => uptoBulk d + 1
 end
def uptoSmall : (H : Type) → List (DataW H) → Bool := fun _ ds => decide (uptoBulkAll ds ≤ 1048576)
def OpenSpec.upto (s : _root_.Go.ChangeSpec) : _root_.Go.OpenSpec := { _root_.Go.OpenSpec.ofChange s with cond := some uptoSmall }

/-- 'laws.FnExactKinByPaths', WHERE WHAT IT READS IS OF BULK AT MOST 1048576: true; the input reads as it did. -/
def fnExactKinByPathsUptoRow : OpenClaim := { program := "ytjmfkodbilknlaa", sum := "310bc991d786674c191f3d8bf394fa2f683d1ae4045e26ecc100d5d982ca7137", func := "loop.example/strategiesthatspread/laws.FnExactKinByPaths", spec := "fnExactKinByPaths", unfollowed := true, recurses := true, apart := false, narrowed := true }
def FnExactKinByPathsUptoSaid : Prop := fnExactKinByPathsUptoRow.holds Try.pinned (OpenSpec.upto fnExactKinByPathsSpec)

/-- 'laws.FnKinOf', WHERE WHAT IT READS IS OF BULK AT MOST 1048576: true; the input reads as it did. -/
def fnKinOfUptoRow : OpenClaim := { program := "ytjmfkodbilknlaa", sum := "310bc991d786674c191f3d8bf394fa2f683d1ae4045e26ecc100d5d982ca7137", func := "loop.example/strategiesthatspread/laws.FnKinOf", spec := "fnKinOf", unfollowed := true, recurses := true, apart := false, narrowed := true }
def FnKinOfUptoSaid : Prop := fnKinOfUptoRow.holds Try.pinned (OpenSpec.upto fnKinOfSpec)

/-- 'laws.FnKinByPaths', WHERE WHAT IT READS IS OF BULK AT MOST 1048576: true; the input reads as it did. -/
def fnKinByPathsUptoRow : OpenClaim := { program := "ytjmfkodbilknlaa", sum := "310bc991d786674c191f3d8bf394fa2f683d1ae4045e26ecc100d5d982ca7137", func := "loop.example/strategiesthatspread/laws.FnKinByPaths", spec := "fnKinByPaths", unfollowed := true, recurses := true, apart := false, narrowed := true }
def FnKinByPathsUptoSaid : Prop := fnKinByPathsUptoRow.holds Try.pinned (OpenSpec.upto fnKinByPathsSpec)

/-- 'laws.FnExactEndsAlways', WHERE WHAT IT READS IS OF BULK AT MOST 1048576: true; the input reads as it did. -/
def fnExactEndsAlwaysUptoRow : OpenClaim := { program := "ytjmfkodbilknlaa", sum := "310bc991d786674c191f3d8bf394fa2f683d1ae4045e26ecc100d5d982ca7137", func := "loop.example/strategiesthatspread/laws.FnExactEndsAlways", spec := "fnExactEndsAlways", recurses := true, apart := false, narrowed := true }
def FnExactEndsAlwaysUptoSaid : Prop := fnExactEndsAlwaysUptoRow.holds Try.pinned (OpenSpec.upto fnExactEndsAlwaysSpec)

/-- 'laws.FnEndsAlways', WHERE WHAT IT READS IS OF BULK AT MOST 1048576: true; the input reads as it did. -/
def fnEndsAlwaysUptoRow : OpenClaim := { program := "ytjmfkodbilknlaa", sum := "310bc991d786674c191f3d8bf394fa2f683d1ae4045e26ecc100d5d982ca7137", func := "loop.example/strategiesthatspread/laws.FnEndsAlways", spec := "fnEndsAlways", recurses := true, apart := false, narrowed := true }
def FnEndsAlwaysUptoSaid : Prop := fnEndsAlwaysUptoRow.holds Try.pinned (OpenSpec.upto fnEndsAlwaysSpec)

end Rows
end Go.Proofs.Ytjmfkodbilknlaa
