/-
  No cell of these rows narrows 'for every input' (looked for: loops, veiled, ifaces, maps, wideKeys, modest, calm, conditions, laid).
  DERIVED. THE GIVEN ROWS OF THIS SEAT. 8 by the template 'for every input the law returns true; each argument reads behind the call as it read before'; 0 by the template 'total and deterministic' (their statements: YtoekpbcdgmejcaaTotals.lean).
  GIVEN WITH THE SEED: the statements are not yours to turn. If you find one false, say at which input.
  Laid BY PROGRAM, IN A SANDBOX (cutbox-rows.mjs): the forced cells as the released guide's own fill.sh prints them over the translation 5304c3576e09bc75… (all of the seat's roots in one cut). By AI agents, Wed Nov 11 2026. No macro, syntax, notation, axiom, sorry.
-/
import Derived.Test.YtoekpbcdgmejcaaChecked
import GoSem.Claim
import GoSem.ClaimJoined
import GoSem.ClaimMapViews
import Derived.JoinedTies
import Derived.KernelRfl
namespace Go.Proofs.Ytoekpbcdgmejcaa
/- THE CELL 'sum', in the pinned program and in every row, IS THE sha256 OF THE DUMP (.gsa) THAT YtoekpbcdgmejcaaProg.lean LOADS. Nothing in Lean hashes anything: it is a label: what it is worth is what the hold of that sum in a sandbox is worth. -/
noncomputable def Try.pinned : Pinned := { name := "ytoekpbcdgmejcaa", sum := "5304c3576e09bc75322d24e0eb1ff553ffa24c637df1bd868633b3e9d2abf9c9", checked := Try.checked }
namespace Rows
def none {H : Type} : Left H := { results := [], args := [] }

/-- 'laws.FnStableIsRest': WHATEVER THE INPUT: true; the input reads as it did. -/
def fnStableIsRestSpec : ChangeSpec := { name := "fnStableIsRest", fn := fun _ => fun
  | [d] => { results := [.lit (.bool true)], args := [d] }
  | _ => none }
def fnStableIsRestRow : OpenClaim := { program := "ytoekpbcdgmejcaa", sum := "5304c3576e09bc75322d24e0eb1ff553ffa24c637df1bd868633b3e9d2abf9c9", func := "loop.example/strategiesthatspread/laws.FnStableIsRest", spec := "fnStableIsRest", unfollowed := true, recurses := true, apart := false }
def FnStableIsRestSaid : Prop := fnStableIsRestRow.holds Try.pinned (OpenSpec.ofChange fnStableIsRestSpec)

/-- ITS FALSE NEIGHBOUR: 'it returns false'. Refute it at one input. -/
def fnStableIsRestWrong : ChangeSpec := { name := "fnStableIsRest", fn := fun _ => fun
  | [d] => { results := [.lit (.bool false)], args := [d] }
  | _ => none }
def FnStableIsRestWrongFalsely : Prop := fnStableIsRestRow.holds Try.pinned (OpenSpec.ofChange fnStableIsRestWrong)

/-- 'laws.FnStableOf': WHATEVER THE INPUT: true; the input reads as it did. -/
def fnStableOfSpec : ChangeSpec := { name := "fnStableOf", fn := fun _ => fun
  | [d] => { results := [.lit (.bool true)], args := [d] }
  | _ => none }
def fnStableOfRow : OpenClaim := { program := "ytoekpbcdgmejcaa", sum := "5304c3576e09bc75322d24e0eb1ff553ffa24c637df1bd868633b3e9d2abf9c9", func := "loop.example/strategiesthatspread/laws.FnStableOf", spec := "fnStableOf", unfollowed := true, recurses := true, apart := false }
def FnStableOfSaid : Prop := fnStableOfRow.holds Try.pinned (OpenSpec.ofChange fnStableOfSpec)

/-- ITS FALSE NEIGHBOUR: 'it returns false'. Refute it at one input. -/
def fnStableOfWrong : ChangeSpec := { name := "fnStableOf", fn := fun _ => fun
  | [d] => { results := [.lit (.bool false)], args := [d] }
  | _ => none }
def FnStableOfWrongFalsely : Prop := fnStableOfRow.holds Try.pinned (OpenSpec.ofChange fnStableOfWrong)

/-- 'laws.FnBarrierOf': WHATEVER THE INPUT: true; the input reads as it did. -/
def fnBarrierOfSpec : ChangeSpec := { name := "fnBarrierOf", fn := fun _ => fun
  | [d] => { results := [.lit (.bool true)], args := [d] }
  | _ => none }
def fnBarrierOfRow : OpenClaim := { program := "ytoekpbcdgmejcaa", sum := "5304c3576e09bc75322d24e0eb1ff553ffa24c637df1bd868633b3e9d2abf9c9", func := "loop.example/strategiesthatspread/laws.FnBarrierOf", spec := "fnBarrierOf", unfollowed := true, recurses := true, apart := false }
def FnBarrierOfSaid : Prop := fnBarrierOfRow.holds Try.pinned (OpenSpec.ofChange fnBarrierOfSpec)

/-- ITS FALSE NEIGHBOUR: 'it returns false'. Refute it at one input. -/
def fnBarrierOfWrong : ChangeSpec := { name := "fnBarrierOf", fn := fun _ => fun
  | [d] => { results := [.lit (.bool false)], args := [d] }
  | _ => none }
def FnBarrierOfWrongFalsely : Prop := fnBarrierOfRow.holds Try.pinned (OpenSpec.ofChange fnBarrierOfWrong)

/-- 'laws.FnNextShares': WHATEVER THE INPUT: true; the input reads as it did. -/
def fnNextSharesSpec : ChangeSpec := { name := "fnNextShares", fn := fun _ => fun
  | [d] => { results := [.lit (.bool true)], args := [d] }
  | _ => none }
def fnNextSharesRow : OpenClaim := { program := "ytoekpbcdgmejcaa", sum := "5304c3576e09bc75322d24e0eb1ff553ffa24c637df1bd868633b3e9d2abf9c9", func := "loop.example/strategiesthatspread/laws.FnNextShares", spec := "fnNextShares", unfollowed := true, recurses := true, apart := false }
def FnNextSharesSaid : Prop := fnNextSharesRow.holds Try.pinned (OpenSpec.ofChange fnNextSharesSpec)

/-- ITS FALSE NEIGHBOUR: 'it returns false'. Refute it at one input. -/
def fnNextSharesWrong : ChangeSpec := { name := "fnNextShares", fn := fun _ => fun
  | [d] => { results := [.lit (.bool false)], args := [d] }
  | _ => none }
def FnNextSharesWrongFalsely : Prop := fnNextSharesRow.holds Try.pinned (OpenSpec.ofChange fnNextSharesWrong)

/-- 'laws.FnMeanPay': WHATEVER THE INPUT: true; the input reads as it did. -/
def fnMeanPaySpec : ChangeSpec := { name := "fnMeanPay", fn := fun _ => fun
  | [d] => { results := [.lit (.bool true)], args := [d] }
  | _ => none }
def fnMeanPayRow : OpenClaim := { program := "ytoekpbcdgmejcaa", sum := "5304c3576e09bc75322d24e0eb1ff553ffa24c637df1bd868633b3e9d2abf9c9", func := "loop.example/strategiesthatspread/laws.FnMeanPay", spec := "fnMeanPay", unfollowed := true, recurses := true, apart := false }
def FnMeanPaySaid : Prop := fnMeanPayRow.holds Try.pinned (OpenSpec.ofChange fnMeanPaySpec)

/-- ITS FALSE NEIGHBOUR: 'it returns false'. Refute it at one input. -/
def fnMeanPayWrong : ChangeSpec := { name := "fnMeanPay", fn := fun _ => fun
  | [d] => { results := [.lit (.bool false)], args := [d] }
  | _ => none }
def FnMeanPayWrongFalsely : Prop := fnMeanPayRow.holds Try.pinned (OpenSpec.ofChange fnMeanPayWrong)

/-- 'laws.FnGrowthOf': WHATEVER THE INPUT: true; the input reads as it did. -/
def fnGrowthOfSpec : ChangeSpec := { name := "fnGrowthOf", fn := fun _ => fun
  | [d] => { results := [.lit (.bool true)], args := [d] }
  | _ => none }
def fnGrowthOfRow : OpenClaim := { program := "ytoekpbcdgmejcaa", sum := "5304c3576e09bc75322d24e0eb1ff553ffa24c637df1bd868633b3e9d2abf9c9", func := "loop.example/strategiesthatspread/laws.FnGrowthOf", spec := "fnGrowthOf", unfollowed := true, recurses := true, apart := false }
def FnGrowthOfSaid : Prop := fnGrowthOfRow.holds Try.pinned (OpenSpec.ofChange fnGrowthOfSpec)

/-- ITS FALSE NEIGHBOUR: 'it returns false'. Refute it at one input. -/
def fnGrowthOfWrong : ChangeSpec := { name := "fnGrowthOf", fn := fun _ => fun
  | [d] => { results := [.lit (.bool false)], args := [d] }
  | _ => none }
def FnGrowthOfWrongFalsely : Prop := fnGrowthOfRow.holds Try.pinned (OpenSpec.ofChange fnGrowthOfWrong)

/-- 'laws.FnRestsStay': WHATEVER THE INPUT: true; the input reads as it did. -/
def fnRestsStaySpec : ChangeSpec := { name := "fnRestsStay", fn := fun _ => fun
  | [d] => { results := [.lit (.bool true)], args := [d] }
  | _ => none }
def fnRestsStayRow : OpenClaim := { program := "ytoekpbcdgmejcaa", sum := "5304c3576e09bc75322d24e0eb1ff553ffa24c637df1bd868633b3e9d2abf9c9", func := "loop.example/strategiesthatspread/laws.FnRestsStay", spec := "fnRestsStay", unfollowed := true, recurses := true, apart := false }
def FnRestsStaySaid : Prop := fnRestsStayRow.holds Try.pinned (OpenSpec.ofChange fnRestsStaySpec)

/-- ITS FALSE NEIGHBOUR: 'it returns false'. Refute it at one input. -/
def fnRestsStayWrong : ChangeSpec := { name := "fnRestsStay", fn := fun _ => fun
  | [d] => { results := [.lit (.bool false)], args := [d] }
  | _ => none }
def FnRestsStayWrongFalsely : Prop := fnRestsStayRow.holds Try.pinned (OpenSpec.ofChange fnRestsStayWrong)

/-- 'laws.FnBarriersGrow': WHATEVER THE INPUT: true; the input reads as it did. -/
def fnBarriersGrowSpec : ChangeSpec := { name := "fnBarriersGrow", fn := fun _ => fun
  | [d] => { results := [.lit (.bool true)], args := [d] }
  | _ => none }
def fnBarriersGrowRow : OpenClaim := { program := "ytoekpbcdgmejcaa", sum := "5304c3576e09bc75322d24e0eb1ff553ffa24c637df1bd868633b3e9d2abf9c9", func := "loop.example/strategiesthatspread/laws.FnBarriersGrow", spec := "fnBarriersGrow", unfollowed := true, recurses := true, apart := false }
def FnBarriersGrowSaid : Prop := fnBarriersGrowRow.holds Try.pinned (OpenSpec.ofChange fnBarriersGrowSpec)

/-- ITS FALSE NEIGHBOUR: 'it returns false'. Refute it at one input. -/
def fnBarriersGrowWrong : ChangeSpec := { name := "fnBarriersGrow", fn := fun _ => fun
  | [d] => { results := [.lit (.bool false)], args := [d] }
  | _ => none }
def FnBarriersGrowWrongFalsely : Prop := fnBarriersGrowRow.holds Try.pinned (OpenSpec.ofChange fnBarriersGrowWrong)

/- THE SECOND FORM. 'bulk': how many values and letters a reading holds, each counted each time it is reached (what is shared counts as often as it is met; a slice's spare places count too). A statement '..UptoSaid' is the law's where the arguments, and the package variables that the reading takes, are together of bulk at most 1048576: NARROWER than '..Said'. Prove '..Said' where nothing that the law and all that it calls make is longer than what came in: it says more and counts as full. Else prove '..UptoSaid'. A law counts once. -/
mutual
def uptoBulk {H : Type} : DataW H → Nat
  | .lit (.string bytes) => bytes.length + 1
  | .lit _ => 1
  | .nil => 1
  | .ptr d => uptoBulk d + 1
  | .slice elems spare => uptoBulkAll elems + uptoBulkAll spare + 1
  | .agg parts => uptoBulkAll parts + 1
  | .iface _ d => uptoBulk d + 1
  | .map entries => uptoBulkEntries entries + 1
  | .held _ => 1
def uptoBulkAll {H : Type} : List (DataW H) → Nat
  | [] => 0
  | d :: r => uptoBulk d + uptoBulkAll r
def uptoBulkEntries {H : Type} : List (Lit × DataW H) → Nat
  | [] => 0
  | x :: r => uptoBulkEntry x + uptoBulkEntries r
def uptoBulkEntry {H : Type} : Lit × DataW H → Nat
  | (.string bytes, d) => bytes.length + uptoBulk d + 1
  | (_, d) => uptoBulk d + 1
 end
def uptoSmall : (H : Type) → List (DataW H) → Bool := fun _ ds => decide (uptoBulkAll ds ≤ 1048576)
def OpenSpec.upto (s : _root_.Go.ChangeSpec) : _root_.Go.OpenSpec := { _root_.Go.OpenSpec.ofChange s with cond := some uptoSmall }

/-- 'laws.FnStableIsRest', WHERE WHAT IT READS IS OF BULK AT MOST 1048576: true; the input reads as it did. -/
def fnStableIsRestUptoRow : OpenClaim := { program := "ytoekpbcdgmejcaa", sum := "5304c3576e09bc75322d24e0eb1ff553ffa24c637df1bd868633b3e9d2abf9c9", func := "loop.example/strategiesthatspread/laws.FnStableIsRest", spec := "fnStableIsRest", unfollowed := true, recurses := true, apart := false, narrowed := true }
def FnStableIsRestUptoSaid : Prop := fnStableIsRestUptoRow.holds Try.pinned (OpenSpec.upto fnStableIsRestSpec)

/-- 'laws.FnStableOf', WHERE WHAT IT READS IS OF BULK AT MOST 1048576: true; the input reads as it did. -/
def fnStableOfUptoRow : OpenClaim := { program := "ytoekpbcdgmejcaa", sum := "5304c3576e09bc75322d24e0eb1ff553ffa24c637df1bd868633b3e9d2abf9c9", func := "loop.example/strategiesthatspread/laws.FnStableOf", spec := "fnStableOf", unfollowed := true, recurses := true, apart := false, narrowed := true }
def FnStableOfUptoSaid : Prop := fnStableOfUptoRow.holds Try.pinned (OpenSpec.upto fnStableOfSpec)

/-- 'laws.FnBarrierOf', WHERE WHAT IT READS IS OF BULK AT MOST 1048576: true; the input reads as it did. -/
def fnBarrierOfUptoRow : OpenClaim := { program := "ytoekpbcdgmejcaa", sum := "5304c3576e09bc75322d24e0eb1ff553ffa24c637df1bd868633b3e9d2abf9c9", func := "loop.example/strategiesthatspread/laws.FnBarrierOf", spec := "fnBarrierOf", unfollowed := true, recurses := true, apart := false, narrowed := true }
def FnBarrierOfUptoSaid : Prop := fnBarrierOfUptoRow.holds Try.pinned (OpenSpec.upto fnBarrierOfSpec)

/-- 'laws.FnNextShares', WHERE WHAT IT READS IS OF BULK AT MOST 1048576: true; the input reads as it did. -/
def fnNextSharesUptoRow : OpenClaim := { program := "ytoekpbcdgmejcaa", sum := "5304c3576e09bc75322d24e0eb1ff553ffa24c637df1bd868633b3e9d2abf9c9", func := "loop.example/strategiesthatspread/laws.FnNextShares", spec := "fnNextShares", unfollowed := true, recurses := true, apart := false, narrowed := true }
def FnNextSharesUptoSaid : Prop := fnNextSharesUptoRow.holds Try.pinned (OpenSpec.upto fnNextSharesSpec)

/-- 'laws.FnMeanPay', WHERE WHAT IT READS IS OF BULK AT MOST 1048576: true; the input reads as it did. -/
def fnMeanPayUptoRow : OpenClaim := { program := "ytoekpbcdgmejcaa", sum := "5304c3576e09bc75322d24e0eb1ff553ffa24c637df1bd868633b3e9d2abf9c9", func := "loop.example/strategiesthatspread/laws.FnMeanPay", spec := "fnMeanPay", unfollowed := true, recurses := true, apart := false, narrowed := true }
def FnMeanPayUptoSaid : Prop := fnMeanPayUptoRow.holds Try.pinned (OpenSpec.upto fnMeanPaySpec)

/-- 'laws.FnGrowthOf', WHERE WHAT IT READS IS OF BULK AT MOST 1048576: true; the input reads as it did. -/
def fnGrowthOfUptoRow : OpenClaim := { program := "ytoekpbcdgmejcaa", sum := "5304c3576e09bc75322d24e0eb1ff553ffa24c637df1bd868633b3e9d2abf9c9", func := "loop.example/strategiesthatspread/laws.FnGrowthOf", spec := "fnGrowthOf", unfollowed := true, recurses := true, apart := false, narrowed := true }
def FnGrowthOfUptoSaid : Prop := fnGrowthOfUptoRow.holds Try.pinned (OpenSpec.upto fnGrowthOfSpec)

/-- 'laws.FnRestsStay', WHERE WHAT IT READS IS OF BULK AT MOST 1048576: true; the input reads as it did. -/
def fnRestsStayUptoRow : OpenClaim := { program := "ytoekpbcdgmejcaa", sum := "5304c3576e09bc75322d24e0eb1ff553ffa24c637df1bd868633b3e9d2abf9c9", func := "loop.example/strategiesthatspread/laws.FnRestsStay", spec := "fnRestsStay", unfollowed := true, recurses := true, apart := false, narrowed := true }
def FnRestsStayUptoSaid : Prop := fnRestsStayUptoRow.holds Try.pinned (OpenSpec.upto fnRestsStaySpec)

/-- 'laws.FnBarriersGrow', WHERE WHAT IT READS IS OF BULK AT MOST 1048576: true; the input reads as it did. -/
def fnBarriersGrowUptoRow : OpenClaim := { program := "ytoekpbcdgmejcaa", sum := "5304c3576e09bc75322d24e0eb1ff553ffa24c637df1bd868633b3e9d2abf9c9", func := "loop.example/strategiesthatspread/laws.FnBarriersGrow", spec := "fnBarriersGrow", unfollowed := true, recurses := true, apart := false, narrowed := true }
def FnBarriersGrowUptoSaid : Prop := fnBarriersGrowUptoRow.holds Try.pinned (OpenSpec.upto fnBarriersGrowSpec)

end Rows
end Go.Proofs.Ytoekpbcdgmejcaa
