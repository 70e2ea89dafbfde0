/-
  No cell of these rows narrows 'for every input' (looked for: loops, veiled, ifaces, maps, wideKeys, modest, calm, conditions, laid).
  DERIVED. THE GIVEN ROWS OF THIS SEAT. 12 by the template 'for every input the law returns true; each argument reads behind the call as it read before'; 0 by the template 'total and deterministic' (their statements: YtlgnpfpdmjhhbaaTotals.lean).
  GIVEN WITH THE SEED: the statements are not yours to turn. If you find one false, say at which input.
  Laid BY PROGRAM, IN A SANDBOX (cutbox-rows.mjs): the forced cells as the released guide's own fill.sh prints them over the translation 8f567a52c0bc2f9b… (all of the seat's roots in one cut). By AI agents, Wed Nov 11 2026. No macro, syntax, notation, axiom, sorry.
-/
import Derived.Test.YtlgnpfpdmjhhbaaChecked
import GoSem.Claim
import GoSem.ClaimJoined
import GoSem.ClaimMapViews
import Derived.JoinedTies
import Derived.KernelRfl
namespace Go.Proofs.Ytlgnpfpdmjhhbaa
/- THE CELL 'sum', in the pinned program and in every row, IS THE sha256 OF THE DUMP (.gsa) THAT YtlgnpfpdmjhhbaaProg.lean LOADS. Nothing in Lean hashes anything: it is a label: what it is worth is what the hold of that sum in a sandbox is worth. -/
noncomputable def Try.pinned : Pinned := { name := "ytlgnpfpdmjhhbaa", sum := "8f567a52c0bc2f9b47a0a82a0875f33e87051507c1ee7f379cdbfa77efa7136f", checked := Try.checked }
namespace Rows
def none {H : Type} : Left H := { results := [], args := [] }

/-- 'laws.FnExactStableOf': WHATEVER THE INPUT: true; the input reads as it did. -/
def fnExactStableOfSpec : ChangeSpec := { name := "fnExactStableOf", fn := fun _ => fun
  | [d] => { results := [.lit (.bool true)], args := [d] }
  | _ => none }
def fnExactStableOfRow : OpenClaim := { program := "ytlgnpfpdmjhhbaa", sum := "8f567a52c0bc2f9b47a0a82a0875f33e87051507c1ee7f379cdbfa77efa7136f", func := "loop.example/strategiesthatspread/laws.FnExactStableOf", spec := "fnExactStableOf", unfollowed := true, recurses := true, apart := false }
def FnExactStableOfSaid : Prop := fnExactStableOfRow.holds Try.pinned (OpenSpec.ofChange fnExactStableOfSpec)

/-- ITS FALSE NEIGHBOUR: 'it returns false'. Refute it at one input. -/
def fnExactStableOfWrong : ChangeSpec := { name := "fnExactStableOf", fn := fun _ => fun
  | [d] => { results := [.lit (.bool false)], args := [d] }
  | _ => none }
def FnExactStableOfWrongFalsely : Prop := fnExactStableOfRow.holds Try.pinned (OpenSpec.ofChange fnExactStableOfWrong)

/-- 'laws.FnExactBarrierOf': WHATEVER THE INPUT: true; the input reads as it did. -/
def fnExactBarrierOfSpec : ChangeSpec := { name := "fnExactBarrierOf", fn := fun _ => fun
  | [d1, d2, d3] => { results := [.lit (.bool true)], args := [d1, d2, d3] }
  | _ => none }
def fnExactBarrierOfRow : OpenClaim := { program := "ytlgnpfpdmjhhbaa", sum := "8f567a52c0bc2f9b47a0a82a0875f33e87051507c1ee7f379cdbfa77efa7136f", func := "loop.example/strategiesthatspread/laws.FnExactBarrierOf", spec := "fnExactBarrierOf", unfollowed := true, recurses := true, apart := false }
def FnExactBarrierOfSaid : Prop := fnExactBarrierOfRow.holds Try.pinned (OpenSpec.ofChange fnExactBarrierOfSpec)

/-- ITS FALSE NEIGHBOUR: 'it returns false'. Refute it at one input. -/
def fnExactBarrierOfWrong : ChangeSpec := { name := "fnExactBarrierOf", fn := fun _ => fun
  | [d1, d2, d3] => { results := [.lit (.bool false)], args := [d1, d2, d3] }
  | _ => none }
def FnExactBarrierOfWrongFalsely : Prop := fnExactBarrierOfRow.holds Try.pinned (OpenSpec.ofChange fnExactBarrierOfWrong)

/-- 'laws.FnExactIsRest': WHATEVER THE INPUT: true; the input reads as it did. -/
def fnExactIsRestSpec : ChangeSpec := { name := "fnExactIsRest", fn := fun _ => fun
  | [d1, d2] => { results := [.lit (.bool true)], args := [d1, d2] }
  | _ => none }
def fnExactIsRestRow : OpenClaim := { program := "ytlgnpfpdmjhhbaa", sum := "8f567a52c0bc2f9b47a0a82a0875f33e87051507c1ee7f379cdbfa77efa7136f", func := "loop.example/strategiesthatspread/laws.FnExactIsRest", spec := "fnExactIsRest", unfollowed := true, recurses := true, apart := false }
def FnExactIsRestSaid : Prop := fnExactIsRestRow.holds Try.pinned (OpenSpec.ofChange fnExactIsRestSpec)

/-- ITS FALSE NEIGHBOUR: 'it returns false'. Refute it at one input. -/
def fnExactIsRestWrong : ChangeSpec := { name := "fnExactIsRest", fn := fun _ => fun
  | [d1, d2] => { results := [.lit (.bool false)], args := [d1, d2] }
  | _ => none }
def FnExactIsRestWrongFalsely : Prop := fnExactIsRestRow.holds Try.pinned (OpenSpec.ofChange fnExactIsRestWrong)

/-- 'laws.FnExactMeanPay': WHATEVER THE INPUT: true; the input reads as it did. -/
def fnExactMeanPaySpec : ChangeSpec := { name := "fnExactMeanPay", fn := fun _ => fun
  | [d1, d2] => { results := [.lit (.bool true)], args := [d1, d2] }
  | _ => none }
def fnExactMeanPayRow : OpenClaim := { program := "ytlgnpfpdmjhhbaa", sum := "8f567a52c0bc2f9b47a0a82a0875f33e87051507c1ee7f379cdbfa77efa7136f", func := "loop.example/strategiesthatspread/laws.FnExactMeanPay", spec := "fnExactMeanPay", apart := false }
def FnExactMeanPaySaid : Prop := fnExactMeanPayRow.holds Try.pinned (OpenSpec.ofChange fnExactMeanPaySpec)

/-- ITS FALSE NEIGHBOUR: 'it returns false'. Refute it at one input. -/
def fnExactMeanPayWrong : ChangeSpec := { name := "fnExactMeanPay", fn := fun _ => fun
  | [d1, d2] => { results := [.lit (.bool false)], args := [d1, d2] }
  | _ => none }
def FnExactMeanPayWrongFalsely : Prop := fnExactMeanPayRow.holds Try.pinned (OpenSpec.ofChange fnExactMeanPayWrong)

/-- 'laws.FnExactValidField': WHATEVER THE INPUT: true; the input reads as it did. -/
def fnExactValidFieldSpec : ChangeSpec := { name := "fnExactValidField", fn := fun _ => fun
  | [d] => { results := [.lit (.bool true)], args := [d] }
  | _ => none }
def fnExactValidFieldRow : OpenClaim := { program := "ytlgnpfpdmjhhbaa", sum := "8f567a52c0bc2f9b47a0a82a0875f33e87051507c1ee7f379cdbfa77efa7136f", func := "loop.example/strategiesthatspread/laws.FnExactValidField", spec := "fnExactValidField", apart := false }
def FnExactValidFieldSaid : Prop := fnExactValidFieldRow.holds Try.pinned (OpenSpec.ofChange fnExactValidFieldSpec)

/-- ITS FALSE NEIGHBOUR: 'it returns false'. Refute it at one input. -/
def fnExactValidFieldWrong : ChangeSpec := { name := "fnExactValidField", fn := fun _ => fun
  | [d] => { results := [.lit (.bool false)], args := [d] }
  | _ => none }
def FnExactValidFieldWrongFalsely : Prop := fnExactValidFieldRow.holds Try.pinned (OpenSpec.ofChange fnExactValidFieldWrong)

/-- 'laws.FnExactIsEven': WHATEVER THE INPUT: true; the input reads as it did. -/
def fnExactIsEvenSpec : ChangeSpec := { name := "fnExactIsEven", fn := fun _ => fun
  | [d] => { results := [.lit (.bool true)], args := [d] }
  | _ => none }
def fnExactIsEvenRow : OpenClaim := { program := "ytlgnpfpdmjhhbaa", sum := "8f567a52c0bc2f9b47a0a82a0875f33e87051507c1ee7f379cdbfa77efa7136f", func := "loop.example/strategiesthatspread/laws.FnExactIsEven", spec := "fnExactIsEven", apart := false }
def FnExactIsEvenSaid : Prop := fnExactIsEvenRow.holds Try.pinned (OpenSpec.ofChange fnExactIsEvenSpec)

/-- ITS FALSE NEIGHBOUR: 'it returns false'. Refute it at one input. -/
def fnExactIsEvenWrong : ChangeSpec := { name := "fnExactIsEven", fn := fun _ => fun
  | [d] => { results := [.lit (.bool false)], args := [d] }
  | _ => none }
def FnExactIsEvenWrongFalsely : Prop := fnExactIsEvenRow.holds Try.pinned (OpenSpec.ofChange fnExactIsEvenWrong)

/-- 'laws.FnExactNextShares': WHATEVER THE INPUT: true; the input reads as it did. -/
def fnExactNextSharesSpec : ChangeSpec := { name := "fnExactNextShares", fn := fun _ => fun
  | [d1, d2] => { results := [.lit (.bool true)], args := [d1, d2] }
  | _ => none }
def fnExactNextSharesRow : OpenClaim := { program := "ytlgnpfpdmjhhbaa", sum := "8f567a52c0bc2f9b47a0a82a0875f33e87051507c1ee7f379cdbfa77efa7136f", func := "loop.example/strategiesthatspread/laws.FnExactNextShares", spec := "fnExactNextShares", unfollowed := true, recurses := true, apart := false }
def FnExactNextSharesSaid : Prop := fnExactNextSharesRow.holds Try.pinned (OpenSpec.ofChange fnExactNextSharesSpec)

/-- ITS FALSE NEIGHBOUR: 'it returns false'. Refute it at one input. -/
def fnExactNextSharesWrong : ChangeSpec := { name := "fnExactNextShares", fn := fun _ => fun
  | [d1, d2] => { results := [.lit (.bool false)], args := [d1, d2] }
  | _ => none }
def FnExactNextSharesWrongFalsely : Prop := fnExactNextSharesRow.holds Try.pinned (OpenSpec.ofChange fnExactNextSharesWrong)

/-- 'laws.FnExactGrowthOf': WHATEVER THE INPUT: true; the input reads as it did. -/
def fnExactGrowthOfSpec : ChangeSpec := { name := "fnExactGrowthOf", fn := fun _ => fun
  | [d1, d2] => { results := [.lit (.bool true)], args := [d1, d2] }
  | _ => none }
def fnExactGrowthOfRow : OpenClaim := { program := "ytlgnpfpdmjhhbaa", sum := "8f567a52c0bc2f9b47a0a82a0875f33e87051507c1ee7f379cdbfa77efa7136f", func := "loop.example/strategiesthatspread/laws.FnExactGrowthOf", spec := "fnExactGrowthOf", apart := false }
def FnExactGrowthOfSaid : Prop := fnExactGrowthOfRow.holds Try.pinned (OpenSpec.ofChange fnExactGrowthOfSpec)

/-- ITS FALSE NEIGHBOUR: 'it returns false'. Refute it at one input. -/
def fnExactGrowthOfWrong : ChangeSpec := { name := "fnExactGrowthOf", fn := fun _ => fun
  | [d1, d2] => { results := [.lit (.bool false)], args := [d1, d2] }
  | _ => none }
def FnExactGrowthOfWrongFalsely : Prop := fnExactGrowthOfRow.holds Try.pinned (OpenSpec.ofChange fnExactGrowthOfWrong)

/-- 'laws.FnValidSquare': WHATEVER THE INPUT: true; the input reads as it did. -/
def fnValidSquareSpec : ChangeSpec := { name := "fnValidSquare", fn := fun _ => fun
  | [d] => { results := [.lit (.bool true)], args := [d] }
  | _ => none }
def fnValidSquareRow : OpenClaim := { program := "ytlgnpfpdmjhhbaa", sum := "8f567a52c0bc2f9b47a0a82a0875f33e87051507c1ee7f379cdbfa77efa7136f", func := "loop.example/strategiesthatspread/laws.FnValidSquare", spec := "fnValidSquare", apart := false }
def FnValidSquareSaid : Prop := fnValidSquareRow.holds Try.pinned (OpenSpec.ofChange fnValidSquareSpec)

/-- ITS FALSE NEIGHBOUR: 'it returns false'. Refute it at one input. -/
def fnValidSquareWrong : ChangeSpec := { name := "fnValidSquare", fn := fun _ => fun
  | [d] => { results := [.lit (.bool false)], args := [d] }
  | _ => none }
def FnValidSquareWrongFalsely : Prop := fnValidSquareRow.holds Try.pinned (OpenSpec.ofChange fnValidSquareWrong)

/-- 'laws.FnValidField': WHATEVER THE INPUT: true; the input reads as it did. -/
def fnValidFieldSpec : ChangeSpec := { name := "fnValidField", fn := fun _ => fun
  | [d] => { results := [.lit (.bool true)], args := [d] }
  | _ => none }
def fnValidFieldRow : OpenClaim := { program := "ytlgnpfpdmjhhbaa", sum := "8f567a52c0bc2f9b47a0a82a0875f33e87051507c1ee7f379cdbfa77efa7136f", func := "loop.example/strategiesthatspread/laws.FnValidField", spec := "fnValidField", apart := false }
def FnValidFieldSaid : Prop := fnValidFieldRow.holds Try.pinned (OpenSpec.ofChange fnValidFieldSpec)

/-- ITS FALSE NEIGHBOUR: 'it returns false'. Refute it at one input. -/
def fnValidFieldWrong : ChangeSpec := { name := "fnValidField", fn := fun _ => fun
  | [d] => { results := [.lit (.bool false)], args := [d] }
  | _ => none }
def FnValidFieldWrongFalsely : Prop := fnValidFieldRow.holds Try.pinned (OpenSpec.ofChange fnValidFieldWrong)

/-- 'laws.FnIsEven': WHATEVER THE INPUT: true; the input reads as it did. -/
def fnIsEvenSpec : ChangeSpec := { name := "fnIsEven", fn := fun _ => fun
  | [d] => { results := [.lit (.bool true)], args := [d] }
  | _ => none }
def fnIsEvenRow : OpenClaim := { program := "ytlgnpfpdmjhhbaa", sum := "8f567a52c0bc2f9b47a0a82a0875f33e87051507c1ee7f379cdbfa77efa7136f", func := "loop.example/strategiesthatspread/laws.FnIsEven", spec := "fnIsEven", apart := false }
def FnIsEvenSaid : Prop := fnIsEvenRow.holds Try.pinned (OpenSpec.ofChange fnIsEvenSpec)

/-- ITS FALSE NEIGHBOUR: 'it returns false'. Refute it at one input. -/
def fnIsEvenWrong : ChangeSpec := { name := "fnIsEven", fn := fun _ => fun
  | [d] => { results := [.lit (.bool false)], args := [d] }
  | _ => none }
def FnIsEvenWrongFalsely : Prop := fnIsEvenRow.holds Try.pinned (OpenSpec.ofChange fnIsEvenWrong)

/-- 'laws.FnExactRestsOn': WHATEVER THE INPUT: true; the input reads as it did. -/
def fnExactRestsOnSpec : ChangeSpec := { name := "fnExactRestsOn", fn := fun _ => fun
  | [d] => { results := [.lit (.bool true)], args := [d] }
  | _ => none }
def fnExactRestsOnRow : OpenClaim := { program := "ytlgnpfpdmjhhbaa", sum := "8f567a52c0bc2f9b47a0a82a0875f33e87051507c1ee7f379cdbfa77efa7136f", func := "loop.example/strategiesthatspread/laws.FnExactRestsOn", spec := "fnExactRestsOn", unfollowed := true, recurses := true, apart := false }
def FnExactRestsOnSaid : Prop := fnExactRestsOnRow.holds Try.pinned (OpenSpec.ofChange fnExactRestsOnSpec)

/-- ITS FALSE NEIGHBOUR: 'it returns false'. Refute it at one input. -/
def fnExactRestsOnWrong : ChangeSpec := { name := "fnExactRestsOn", fn := fun _ => fun
  | [d] => { results := [.lit (.bool false)], args := [d] }
  | _ => none }
def FnExactRestsOnWrongFalsely : Prop := fnExactRestsOnRow.holds Try.pinned (OpenSpec.ofChange fnExactRestsOnWrong)

/- THE SECOND FORM. 'bulk': how many values and letters a reading holds, each counted each time it is reached (what is shared counts as often as it is met; a slice's spare places count too). A statement '..UptoSaid' is the law's where the arguments, and the package variables that the reading takes, are together of bulk at most 1048576: NARROWER than '..Said'. Prove '..Said' where nothing that the law and all that it calls make is longer than what came in: it says more and counts as full. Else prove '..UptoSaid'. A law counts once. -/
mutual
def uptoBulk {H : Type} : DataW H → Nat
  | .lit (.string bytes) => bytes.length + 1
  | .lit _ => 1
  | .nil => 1
  | .ptr d => uptoBulk d + 1
  | .slice elems spare => uptoBulkAll elems + uptoBulkAll spare + 1
  | .agg parts => uptoBulkAll parts + 1
  | .iface _ d => uptoBulk d + 1
  | .map entries => uptoBulkEntries entries + 1
  | .held _ => 1
def uptoBulkAll {H : Type} : List (DataW H) → Nat
  | [] => 0
  | d :: r => uptoBulk d + uptoBulkAll r
def uptoBulkEntries {H : Type} : List (Lit × DataW H) → Nat
  | [] => 0
  | x :: r => uptoBulkEntry x + uptoBulkEntries r
def uptoBulkEntry {H : Type} : Lit × DataW H → Nat
  | (.string bytes, d) => bytes.length + uptoBulk d + 1
  | (_, d) => uptoBulk d + 1
 end
def uptoSmall : (H : Type) → List (DataW H) → Bool := fun _ ds => decide (uptoBulkAll ds ≤ 1048576)
def OpenSpec.upto (s : _root_.Go.ChangeSpec) : _root_.Go.OpenSpec := { _root_.Go.OpenSpec.ofChange s with cond := some uptoSmall }

/-- 'laws.FnExactStableOf', WHERE WHAT IT READS IS OF BULK AT MOST 1048576: true; the input reads as it did. -/
def fnExactStableOfUptoRow : OpenClaim := { program := "ytlgnpfpdmjhhbaa", sum := "8f567a52c0bc2f9b47a0a82a0875f33e87051507c1ee7f379cdbfa77efa7136f", func := "loop.example/strategiesthatspread/laws.FnExactStableOf", spec := "fnExactStableOf", unfollowed := true, recurses := true, apart := false, narrowed := true }
def FnExactStableOfUptoSaid : Prop := fnExactStableOfUptoRow.holds Try.pinned (OpenSpec.upto fnExactStableOfSpec)

/-- 'laws.FnExactBarrierOf', WHERE WHAT IT READS IS OF BULK AT MOST 1048576: true; the input reads as it did. -/
def fnExactBarrierOfUptoRow : OpenClaim := { program := "ytlgnpfpdmjhhbaa", sum := "8f567a52c0bc2f9b47a0a82a0875f33e87051507c1ee7f379cdbfa77efa7136f", func := "loop.example/strategiesthatspread/laws.FnExactBarrierOf", spec := "fnExactBarrierOf", unfollowed := true, recurses := true, apart := false, narrowed := true }
def FnExactBarrierOfUptoSaid : Prop := fnExactBarrierOfUptoRow.holds Try.pinned (OpenSpec.upto fnExactBarrierOfSpec)

/-- 'laws.FnExactIsRest', WHERE WHAT IT READS IS OF BULK AT MOST 1048576: true; the input reads as it did. -/
def fnExactIsRestUptoRow : OpenClaim := { program := "ytlgnpfpdmjhhbaa", sum := "8f567a52c0bc2f9b47a0a82a0875f33e87051507c1ee7f379cdbfa77efa7136f", func := "loop.example/strategiesthatspread/laws.FnExactIsRest", spec := "fnExactIsRest", unfollowed := true, recurses := true, apart := false, narrowed := true }
def FnExactIsRestUptoSaid : Prop := fnExactIsRestUptoRow.holds Try.pinned (OpenSpec.upto fnExactIsRestSpec)

/-- 'laws.FnExactMeanPay', WHERE WHAT IT READS IS OF BULK AT MOST 1048576: true; the input reads as it did. -/
def fnExactMeanPayUptoRow : OpenClaim := { program := "ytlgnpfpdmjhhbaa", sum := "8f567a52c0bc2f9b47a0a82a0875f33e87051507c1ee7f379cdbfa77efa7136f", func := "loop.example/strategiesthatspread/laws.FnExactMeanPay", spec := "fnExactMeanPay", apart := false, narrowed := true }
def FnExactMeanPayUptoSaid : Prop := fnExactMeanPayUptoRow.holds Try.pinned (OpenSpec.upto fnExactMeanPaySpec)

/-- 'laws.FnExactValidField', WHERE WHAT IT READS IS OF BULK AT MOST 1048576: true; the input reads as it did. -/
def fnExactValidFieldUptoRow : OpenClaim := { program := "ytlgnpfpdmjhhbaa", sum := "8f567a52c0bc2f9b47a0a82a0875f33e87051507c1ee7f379cdbfa77efa7136f", func := "loop.example/strategiesthatspread/laws.FnExactValidField", spec := "fnExactValidField", apart := false, narrowed := true }
def FnExactValidFieldUptoSaid : Prop := fnExactValidFieldUptoRow.holds Try.pinned (OpenSpec.upto fnExactValidFieldSpec)

/-- 'laws.FnExactIsEven', WHERE WHAT IT READS IS OF BULK AT MOST 1048576: true; the input reads as it did. -/
def fnExactIsEvenUptoRow : OpenClaim := { program := "ytlgnpfpdmjhhbaa", sum := "8f567a52c0bc2f9b47a0a82a0875f33e87051507c1ee7f379cdbfa77efa7136f", func := "loop.example/strategiesthatspread/laws.FnExactIsEven", spec := "fnExactIsEven", apart := false, narrowed := true }
def FnExactIsEvenUptoSaid : Prop := fnExactIsEvenUptoRow.holds Try.pinned (OpenSpec.upto fnExactIsEvenSpec)

/-- 'laws.FnExactNextShares', WHERE WHAT IT READS IS OF BULK AT MOST 1048576: true; the input reads as it did. -/
def fnExactNextSharesUptoRow : OpenClaim := { program := "ytlgnpfpdmjhhbaa", sum := "8f567a52c0bc2f9b47a0a82a0875f33e87051507c1ee7f379cdbfa77efa7136f", func := "loop.example/strategiesthatspread/laws.FnExactNextShares", spec := "fnExactNextShares", unfollowed := true, recurses := true, apart := false, narrowed := true }
def FnExactNextSharesUptoSaid : Prop := fnExactNextSharesUptoRow.holds Try.pinned (OpenSpec.upto fnExactNextSharesSpec)

/-- 'laws.FnExactGrowthOf', WHERE WHAT IT READS IS OF BULK AT MOST 1048576: true; the input reads as it did. -/
def fnExactGrowthOfUptoRow : OpenClaim := { program := "ytlgnpfpdmjhhbaa", sum := "8f567a52c0bc2f9b47a0a82a0875f33e87051507c1ee7f379cdbfa77efa7136f", func := "loop.example/strategiesthatspread/laws.FnExactGrowthOf", spec := "fnExactGrowthOf", apart := false, narrowed := true }
def FnExactGrowthOfUptoSaid : Prop := fnExactGrowthOfUptoRow.holds Try.pinned (OpenSpec.upto fnExactGrowthOfSpec)

/-- 'laws.FnValidSquare', WHERE WHAT IT READS IS OF BULK AT MOST 1048576: true; the input reads as it did. -/
def fnValidSquareUptoRow : OpenClaim := { program := "ytlgnpfpdmjhhbaa", sum := "8f567a52c0bc2f9b47a0a82a0875f33e87051507c1ee7f379cdbfa77efa7136f", func := "loop.example/strategiesthatspread/laws.FnValidSquare", spec := "fnValidSquare", apart := false, narrowed := true }
def FnValidSquareUptoSaid : Prop := fnValidSquareUptoRow.holds Try.pinned (OpenSpec.upto fnValidSquareSpec)

/-- 'laws.FnValidField', WHERE WHAT IT READS IS OF BULK AT MOST 1048576: true; the input reads as it did. -/
def fnValidFieldUptoRow : OpenClaim := { program := "ytlgnpfpdmjhhbaa", sum := "8f567a52c0bc2f9b47a0a82a0875f33e87051507c1ee7f379cdbfa77efa7136f", func := "loop.example/strategiesthatspread/laws.FnValidField", spec := "fnValidField", apart := false, narrowed := true }
def FnValidFieldUptoSaid : Prop := fnValidFieldUptoRow.holds Try.pinned (OpenSpec.upto fnValidFieldSpec)

/-- 'laws.FnIsEven', WHERE WHAT IT READS IS OF BULK AT MOST 1048576: true; the input reads as it did. -/
def fnIsEvenUptoRow : OpenClaim := { program := "ytlgnpfpdmjhhbaa", sum := "8f567a52c0bc2f9b47a0a82a0875f33e87051507c1ee7f379cdbfa77efa7136f", func := "loop.example/strategiesthatspread/laws.FnIsEven", spec := "fnIsEven", apart := false, narrowed := true }
def FnIsEvenUptoSaid : Prop := fnIsEvenUptoRow.holds Try.pinned (OpenSpec.upto fnIsEvenSpec)

/-- 'laws.FnExactRestsOn', WHERE WHAT IT READS IS OF BULK AT MOST 1048576: true; the input reads as it did. -/
def fnExactRestsOnUptoRow : OpenClaim := { program := "ytlgnpfpdmjhhbaa", sum := "8f567a52c0bc2f9b47a0a82a0875f33e87051507c1ee7f379cdbfa77efa7136f", func := "loop.example/strategiesthatspread/laws.FnExactRestsOn", spec := "fnExactRestsOn", unfollowed := true, recurses := true, apart := false, narrowed := true }
def FnExactRestsOnUptoSaid : Prop := fnExactRestsOnUptoRow.holds Try.pinned (OpenSpec.upto fnExactRestsOnSpec)

end Rows
end Go.Proofs.Ytlgnpfpdmjhhbaa
