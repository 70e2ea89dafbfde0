/-
  No cell of these rows narrows 'for every input' (looked for: loops, veiled, ifaces, maps, wideKeys, modest, calm, conditions, laid).
  DERIVED. THE GIVEN ROWS OF THIS SEAT. 11 by the template 'for every input the law returns true; each argument reads behind the call as it read before'; 0 by the template 'total and deterministic' (their statements: YtcjanlbhgfadpaaTotals.lean).
  GIVEN WITH THE SEED: the statements are not yours to turn. If you find one false, say at which input.
  Laid BY PROGRAM, IN A SANDBOX (cutbox-rows.mjs): the forced cells as the released guide's own fill.sh prints them over the translation 655ecf10fdcd3bf8… (all of the seat's roots in one cut). By AI agents, Wed Nov 11 2026. No macro, syntax, notation, axiom, sorry.
-/
import Derived.Test.YtcjanlbhgfadpaaChecked
import GoSem.Claim
import GoSem.ClaimJoined
import GoSem.ClaimMapViews
import Derived.JoinedTies
import Derived.KernelRfl
namespace Go.Proofs.Ytcjanlbhgfadpaa
/- THE CELL 'sum', in the pinned program and in every row, IS THE sha256 OF THE DUMP (.gsa) THAT YtcjanlbhgfadpaaProg.lean LOADS. Nothing in Lean hashes anything: it is a label: what it is worth is what the hold of that sum in a sandbox is worth. -/
noncomputable def Try.pinned : Pinned := { name := "ytcjanlbhgfadpaa", sum := "655ecf10fdcd3bf8d997fe22254a58516562d549923ff08ecfff462a9e1e9271", checked := Try.checked }
namespace Rows
def none {H : Type} : Left H := { results := [], args := [] }

/-- 'laws.FnValidTalk': WHATEVER THE INPUT: true; the input reads as it did. -/
def fnValidTalkSpec : ChangeSpec := { name := "fnValidTalk", fn := fun _ => fun
  | [d] => { results := [.lit (.bool true)], args := [d] }
  | _ => none }
def fnValidTalkRow : OpenClaim := { program := "ytcjanlbhgfadpaa", sum := "655ecf10fdcd3bf8d997fe22254a58516562d549923ff08ecfff462a9e1e9271", func := "loop.example/strategiesthatspread/laws.FnValidTalk", spec := "fnValidTalk", apart := false }
def FnValidTalkSaid : Prop := fnValidTalkRow.holds Try.pinned (OpenSpec.ofChange fnValidTalkSpec)

/-- ITS FALSE NEIGHBOUR: 'it returns false'. Refute it at one input. -/
def fnValidTalkWrong : ChangeSpec := { name := "fnValidTalk", fn := fun _ => fun
  | [d] => { results := [.lit (.bool false)], args := [d] }
  | _ => none }
def FnValidTalkWrongFalsely : Prop := fnValidTalkRow.holds Try.pinned (OpenSpec.ofChange fnValidTalkWrong)

/-- 'laws.FnTalkPays': WHATEVER THE INPUT: true; the input reads as it did. -/
def fnTalkPaysSpec : ChangeSpec := { name := "fnTalkPays", fn := fun _ => fun
  | [d] => { results := [.lit (.bool true)], args := [d] }
  | _ => none }
def fnTalkPaysRow : OpenClaim := { program := "ytcjanlbhgfadpaa", sum := "655ecf10fdcd3bf8d997fe22254a58516562d549923ff08ecfff462a9e1e9271", func := "loop.example/strategiesthatspread/laws.FnTalkPays", spec := "fnTalkPays", apart := false }
def FnTalkPaysSaid : Prop := fnTalkPaysRow.holds Try.pinned (OpenSpec.ofChange fnTalkPaysSpec)

/-- ITS FALSE NEIGHBOUR: 'it returns false'. Refute it at one input. -/
def fnTalkPaysWrong : ChangeSpec := { name := "fnTalkPays", fn := fun _ => fun
  | [d] => { results := [.lit (.bool false)], args := [d] }
  | _ => none }
def FnTalkPaysWrongFalsely : Prop := fnTalkPaysRow.holds Try.pinned (OpenSpec.ofChange fnTalkPaysWrong)

/-- 'laws.FnTalkRests': WHATEVER THE INPUT: true; the input reads as it did. -/
def fnTalkRestsSpec : ChangeSpec := { name := "fnTalkRests", fn := fun _ => fun
  | [d] => { results := [.lit (.bool true)], args := [d] }
  | _ => none }
def fnTalkRestsRow : OpenClaim := { program := "ytcjanlbhgfadpaa", sum := "655ecf10fdcd3bf8d997fe22254a58516562d549923ff08ecfff462a9e1e9271", func := "loop.example/strategiesthatspread/laws.FnTalkRests", spec := "fnTalkRests", apart := false }
def FnTalkRestsSaid : Prop := fnTalkRestsRow.holds Try.pinned (OpenSpec.ofChange fnTalkRestsSpec)

/-- ITS FALSE NEIGHBOUR: 'it returns false'. Refute it at one input. -/
def fnTalkRestsWrong : ChangeSpec := { name := "fnTalkRests", fn := fun _ => fun
  | [d] => { results := [.lit (.bool false)], args := [d] }
  | _ => none }
def FnTalkRestsWrongFalsely : Prop := fnTalkRestsRow.holds Try.pinned (OpenSpec.ofChange fnTalkRestsWrong)

/-- 'laws.FnTells': WHATEVER THE INPUT: true; the input reads as it did. -/
def fnTellsSpec : ChangeSpec := { name := "fnTells", fn := fun _ => fun
  | [d] => { results := [.lit (.bool true)], args := [d] }
  | _ => none }
def fnTellsRow : OpenClaim := { program := "ytcjanlbhgfadpaa", sum := "655ecf10fdcd3bf8d997fe22254a58516562d549923ff08ecfff462a9e1e9271", func := "loop.example/strategiesthatspread/laws.FnTells", spec := "fnTells", unfollowed := true, recurses := true, apart := false }
def FnTellsSaid : Prop := fnTellsRow.holds Try.pinned (OpenSpec.ofChange fnTellsSpec)

/-- ITS FALSE NEIGHBOUR: 'it returns false'. Refute it at one input. -/
def fnTellsWrong : ChangeSpec := { name := "fnTells", fn := fun _ => fun
  | [d] => { results := [.lit (.bool false)], args := [d] }
  | _ => none }
def FnTellsWrongFalsely : Prop := fnTellsRow.holds Try.pinned (OpenSpec.ofChange fnTellsWrong)

/-- 'laws.FnHonestCost': WHATEVER THE INPUT: true; the input reads as it did. -/
def fnHonestCostSpec : ChangeSpec := { name := "fnHonestCost", fn := fun _ => fun
  | [d] => { results := [.lit (.bool true)], args := [d] }
  | _ => none }
def fnHonestCostRow : OpenClaim := { program := "ytcjanlbhgfadpaa", sum := "655ecf10fdcd3bf8d997fe22254a58516562d549923ff08ecfff462a9e1e9271", func := "loop.example/strategiesthatspread/laws.FnHonestCost", spec := "fnHonestCost", unfollowed := true, recurses := true, apart := false }
def FnHonestCostSaid : Prop := fnHonestCostRow.holds Try.pinned (OpenSpec.ofChange fnHonestCostSpec)

/-- ITS FALSE NEIGHBOUR: 'it returns false'. Refute it at one input. -/
def fnHonestCostWrong : ChangeSpec := { name := "fnHonestCost", fn := fun _ => fun
  | [d] => { results := [.lit (.bool false)], args := [d] }
  | _ => none }
def FnHonestCostWrongFalsely : Prop := fnHonestCostRow.holds Try.pinned (OpenSpec.ofChange fnHonestCostWrong)

/-- 'laws.FnToldIsBest': WHATEVER THE INPUT: true; the input reads as it did. -/
def fnToldIsBestSpec : ChangeSpec := { name := "fnToldIsBest", fn := fun _ => fun
  | [d] => { results := [.lit (.bool true)], args := [d] }
  | _ => none }
def fnToldIsBestRow : OpenClaim := { program := "ytcjanlbhgfadpaa", sum := "655ecf10fdcd3bf8d997fe22254a58516562d549923ff08ecfff462a9e1e9271", func := "loop.example/strategiesthatspread/laws.FnToldIsBest", spec := "fnToldIsBest", apart := false }
def FnToldIsBestSaid : Prop := fnToldIsBestRow.holds Try.pinned (OpenSpec.ofChange fnToldIsBestSpec)

/-- ITS FALSE NEIGHBOUR: 'it returns false'. Refute it at one input. -/
def fnToldIsBestWrong : ChangeSpec := { name := "fnToldIsBest", fn := fun _ => fun
  | [d] => { results := [.lit (.bool false)], args := [d] }
  | _ => none }
def FnToldIsBestWrongFalsely : Prop := fnToldIsBestRow.holds Try.pinned (OpenSpec.ofChange fnToldIsBestWrong)

/-- 'laws.FnExactValidTalk': WHATEVER THE INPUT: true; the input reads as it did. -/
def fnExactValidTalkSpec : ChangeSpec := { name := "fnExactValidTalk", fn := fun _ => fun
  | [d] => { results := [.lit (.bool true)], args := [d] }
  | _ => none }
def fnExactValidTalkRow : OpenClaim := { program := "ytcjanlbhgfadpaa", sum := "655ecf10fdcd3bf8d997fe22254a58516562d549923ff08ecfff462a9e1e9271", func := "loop.example/strategiesthatspread/laws.FnExactValidTalk", spec := "fnExactValidTalk", apart := false }
def FnExactValidTalkSaid : Prop := fnExactValidTalkRow.holds Try.pinned (OpenSpec.ofChange fnExactValidTalkSpec)

/-- ITS FALSE NEIGHBOUR: 'it returns false'. Refute it at one input. -/
def fnExactValidTalkWrong : ChangeSpec := { name := "fnExactValidTalk", fn := fun _ => fun
  | [d] => { results := [.lit (.bool false)], args := [d] }
  | _ => none }
def FnExactValidTalkWrongFalsely : Prop := fnExactValidTalkRow.holds Try.pinned (OpenSpec.ofChange fnExactValidTalkWrong)

/-- 'laws.FnExactTalkPays': WHATEVER THE INPUT: true; the input reads as it did. -/
def fnExactTalkPaysSpec : ChangeSpec := { name := "fnExactTalkPays", fn := fun _ => fun
  | [d1, d2, d3] => { results := [.lit (.bool true)], args := [d1, d2, d3] }
  | _ => none }
def fnExactTalkPaysRow : OpenClaim := { program := "ytcjanlbhgfadpaa", sum := "655ecf10fdcd3bf8d997fe22254a58516562d549923ff08ecfff462a9e1e9271", func := "loop.example/strategiesthatspread/laws.FnExactTalkPays", spec := "fnExactTalkPays", apart := false }
def FnExactTalkPaysSaid : Prop := fnExactTalkPaysRow.holds Try.pinned (OpenSpec.ofChange fnExactTalkPaysSpec)

/-- ITS FALSE NEIGHBOUR: 'it returns false'. Refute it at one input. -/
def fnExactTalkPaysWrong : ChangeSpec := { name := "fnExactTalkPays", fn := fun _ => fun
  | [d1, d2, d3] => { results := [.lit (.bool false)], args := [d1, d2, d3] }
  | _ => none }
def FnExactTalkPaysWrongFalsely : Prop := fnExactTalkPaysRow.holds Try.pinned (OpenSpec.ofChange fnExactTalkPaysWrong)

/-- 'laws.FnExactTalkRests': WHATEVER THE INPUT: true; the input reads as it did. -/
def fnExactTalkRestsSpec : ChangeSpec := { name := "fnExactTalkRests", fn := fun _ => fun
  | [d] => { results := [.lit (.bool true)], args := [d] }
  | _ => none }
def fnExactTalkRestsRow : OpenClaim := { program := "ytcjanlbhgfadpaa", sum := "655ecf10fdcd3bf8d997fe22254a58516562d549923ff08ecfff462a9e1e9271", func := "loop.example/strategiesthatspread/laws.FnExactTalkRests", spec := "fnExactTalkRests", apart := false }
def FnExactTalkRestsSaid : Prop := fnExactTalkRestsRow.holds Try.pinned (OpenSpec.ofChange fnExactTalkRestsSpec)

/-- ITS FALSE NEIGHBOUR: 'it returns false'. Refute it at one input. -/
def fnExactTalkRestsWrong : ChangeSpec := { name := "fnExactTalkRests", fn := fun _ => fun
  | [d] => { results := [.lit (.bool false)], args := [d] }
  | _ => none }
def FnExactTalkRestsWrongFalsely : Prop := fnExactTalkRestsRow.holds Try.pinned (OpenSpec.ofChange fnExactTalkRestsWrong)

/-- 'laws.FnExactTells': WHATEVER THE INPUT: true; the input reads as it did. -/
def fnExactTellsSpec : ChangeSpec := { name := "fnExactTells", fn := fun _ => fun
  | [d] => { results := [.lit (.bool true)], args := [d] }
  | _ => none }
def fnExactTellsRow : OpenClaim := { program := "ytcjanlbhgfadpaa", sum := "655ecf10fdcd3bf8d997fe22254a58516562d549923ff08ecfff462a9e1e9271", func := "loop.example/strategiesthatspread/laws.FnExactTells", spec := "fnExactTells", unfollowed := true, recurses := true, apart := false }
def FnExactTellsSaid : Prop := fnExactTellsRow.holds Try.pinned (OpenSpec.ofChange fnExactTellsSpec)

/-- ITS FALSE NEIGHBOUR: 'it returns false'. Refute it at one input. -/
def fnExactTellsWrong : ChangeSpec := { name := "fnExactTells", fn := fun _ => fun
  | [d] => { results := [.lit (.bool false)], args := [d] }
  | _ => none }
def FnExactTellsWrongFalsely : Prop := fnExactTellsRow.holds Try.pinned (OpenSpec.ofChange fnExactTellsWrong)

/-- 'laws.FnExactHonestCost': WHATEVER THE INPUT: true; the input reads as it did. -/
def fnExactHonestCostSpec : ChangeSpec := { name := "fnExactHonestCost", fn := fun _ => fun
  | [d] => { results := [.lit (.bool true)], args := [d] }
  | _ => none }
def fnExactHonestCostRow : OpenClaim := { program := "ytcjanlbhgfadpaa", sum := "655ecf10fdcd3bf8d997fe22254a58516562d549923ff08ecfff462a9e1e9271", func := "loop.example/strategiesthatspread/laws.FnExactHonestCost", spec := "fnExactHonestCost", unfollowed := true, recurses := true, apart := false }
def FnExactHonestCostSaid : Prop := fnExactHonestCostRow.holds Try.pinned (OpenSpec.ofChange fnExactHonestCostSpec)

/-- ITS FALSE NEIGHBOUR: 'it returns false'. Refute it at one input. -/
def fnExactHonestCostWrong : ChangeSpec := { name := "fnExactHonestCost", fn := fun _ => fun
  | [d] => { results := [.lit (.bool false)], args := [d] }
  | _ => none }
def FnExactHonestCostWrongFalsely : Prop := fnExactHonestCostRow.holds Try.pinned (OpenSpec.ofChange fnExactHonestCostWrong)

/- THE SECOND FORM. 'bulk': how many values and letters a reading holds, each counted each time it is reached (what is shared counts as often as it is met; a slice's spare places count too). A statement '..UptoSaid' is the law's where the arguments, and the package variables that the reading takes, are together of bulk at most 1048576: NARROWER than '..Said'. Prove '..Said' where nothing that the law and all that it calls make is longer than what came in: it says more and counts as full. Else prove '..UptoSaid'. A law counts once. -/
mutual
def uptoBulk {H : Type} : DataW H → Nat
  | .lit (.string bytes) => bytes.length + 1
  | .lit _ => 1
  | .nil => 1
  | .ptr d => uptoBulk d + 1
  | .slice elems spare => uptoBulkAll elems + uptoBulkAll spare + 1
  | .agg parts => uptoBulkAll parts + 1
  | .iface _ d => uptoBulk d + 1
  | .map entries => uptoBulkEntries entries + 1
  | .held _ => 1
def uptoBulkAll {H : Type} : List (DataW H) → Nat
  | [] => 0
  | d :: r => uptoBulk d + uptoBulkAll r
def uptoBulkEntries {H : Type} : List (Lit × DataW H) → Nat
  | [] => 0
  | x :: r => uptoBulkEntry x + uptoBulkEntries r
def uptoBulkEntry {H : Type} : Lit × DataW H → Nat
  | (.string bytes, d) => bytes.length + uptoBulk d + 1
  | (_, d) => uptoBulk d + 1
 end
def uptoSmall : (H : Type) → List (DataW H) → Bool := fun _ ds => decide (uptoBulkAll ds ≤ 1048576)
def OpenSpec.upto (s : _root_.Go.ChangeSpec) : _root_.Go.OpenSpec := { _root_.Go.OpenSpec.ofChange s with cond := some uptoSmall }

/-- 'laws.FnValidTalk', WHERE WHAT IT READS IS OF BULK AT MOST 1048576: true; the input reads as it did. -/
def fnValidTalkUptoRow : OpenClaim := { program := "ytcjanlbhgfadpaa", sum := "655ecf10fdcd3bf8d997fe22254a58516562d549923ff08ecfff462a9e1e9271", func := "loop.example/strategiesthatspread/laws.FnValidTalk", spec := "fnValidTalk", apart := false, narrowed := true }
def FnValidTalkUptoSaid : Prop := fnValidTalkUptoRow.holds Try.pinned (OpenSpec.upto fnValidTalkSpec)

/-- 'laws.FnTalkPays', WHERE WHAT IT READS IS OF BULK AT MOST 1048576: true; the input reads as it did. -/
def fnTalkPaysUptoRow : OpenClaim := { program := "ytcjanlbhgfadpaa", sum := "655ecf10fdcd3bf8d997fe22254a58516562d549923ff08ecfff462a9e1e9271", func := "loop.example/strategiesthatspread/laws.FnTalkPays", spec := "fnTalkPays", apart := false, narrowed := true }
def FnTalkPaysUptoSaid : Prop := fnTalkPaysUptoRow.holds Try.pinned (OpenSpec.upto fnTalkPaysSpec)

/-- 'laws.FnTalkRests', WHERE WHAT IT READS IS OF BULK AT MOST 1048576: true; the input reads as it did. -/
def fnTalkRestsUptoRow : OpenClaim := { program := "ytcjanlbhgfadpaa", sum := "655ecf10fdcd3bf8d997fe22254a58516562d549923ff08ecfff462a9e1e9271", func := "loop.example/strategiesthatspread/laws.FnTalkRests", spec := "fnTalkRests", apart := false, narrowed := true }
def FnTalkRestsUptoSaid : Prop := fnTalkRestsUptoRow.holds Try.pinned (OpenSpec.upto fnTalkRestsSpec)

/-- 'laws.FnTells', WHERE WHAT IT READS IS OF BULK AT MOST 1048576: true; the input reads as it did. -/
def fnTellsUptoRow : OpenClaim := { program := "ytcjanlbhgfadpaa", sum := "655ecf10fdcd3bf8d997fe22254a58516562d549923ff08ecfff462a9e1e9271", func := "loop.example/strategiesthatspread/laws.FnTells", spec := "fnTells", unfollowed := true, recurses := true, apart := false, narrowed := true }
def FnTellsUptoSaid : Prop := fnTellsUptoRow.holds Try.pinned (OpenSpec.upto fnTellsSpec)

/-- 'laws.FnHonestCost', WHERE WHAT IT READS IS OF BULK AT MOST 1048576: true; the input reads as it did. -/
def fnHonestCostUptoRow : OpenClaim := { program := "ytcjanlbhgfadpaa", sum := "655ecf10fdcd3bf8d997fe22254a58516562d549923ff08ecfff462a9e1e9271", func := "loop.example/strategiesthatspread/laws.FnHonestCost", spec := "fnHonestCost", unfollowed := true, recurses := true, apart := false, narrowed := true }
def FnHonestCostUptoSaid : Prop := fnHonestCostUptoRow.holds Try.pinned (OpenSpec.upto fnHonestCostSpec)

/-- 'laws.FnToldIsBest', WHERE WHAT IT READS IS OF BULK AT MOST 1048576: true; the input reads as it did. -/
def fnToldIsBestUptoRow : OpenClaim := { program := "ytcjanlbhgfadpaa", sum := "655ecf10fdcd3bf8d997fe22254a58516562d549923ff08ecfff462a9e1e9271", func := "loop.example/strategiesthatspread/laws.FnToldIsBest", spec := "fnToldIsBest", apart := false, narrowed := true }
def FnToldIsBestUptoSaid : Prop := fnToldIsBestUptoRow.holds Try.pinned (OpenSpec.upto fnToldIsBestSpec)

/-- 'laws.FnExactValidTalk', WHERE WHAT IT READS IS OF BULK AT MOST 1048576: true; the input reads as it did. -/
def fnExactValidTalkUptoRow : OpenClaim := { program := "ytcjanlbhgfadpaa", sum := "655ecf10fdcd3bf8d997fe22254a58516562d549923ff08ecfff462a9e1e9271", func := "loop.example/strategiesthatspread/laws.FnExactValidTalk", spec := "fnExactValidTalk", apart := false, narrowed := true }
def FnExactValidTalkUptoSaid : Prop := fnExactValidTalkUptoRow.holds Try.pinned (OpenSpec.upto fnExactValidTalkSpec)

/-- 'laws.FnExactTalkPays', WHERE WHAT IT READS IS OF BULK AT MOST 1048576: true; the input reads as it did. -/
def fnExactTalkPaysUptoRow : OpenClaim := { program := "ytcjanlbhgfadpaa", sum := "655ecf10fdcd3bf8d997fe22254a58516562d549923ff08ecfff462a9e1e9271", func := "loop.example/strategiesthatspread/laws.FnExactTalkPays", spec := "fnExactTalkPays", apart := false, narrowed := true }
def FnExactTalkPaysUptoSaid : Prop := fnExactTalkPaysUptoRow.holds Try.pinned (OpenSpec.upto fnExactTalkPaysSpec)

/-- 'laws.FnExactTalkRests', WHERE WHAT IT READS IS OF BULK AT MOST 1048576: true; the input reads as it did. -/
def fnExactTalkRestsUptoRow : OpenClaim := { program := "ytcjanlbhgfadpaa", sum := "655ecf10fdcd3bf8d997fe22254a58516562d549923ff08ecfff462a9e1e9271", func := "loop.example/strategiesthatspread/laws.FnExactTalkRests", spec := "fnExactTalkRests", apart := false, narrowed := true }
def FnExactTalkRestsUptoSaid : Prop := fnExactTalkRestsUptoRow.holds Try.pinned (OpenSpec.upto fnExactTalkRestsSpec)

/-- 'laws.FnExactTells', WHERE WHAT IT READS IS OF BULK AT MOST 1048576: true; the input reads as it did. -/
def fnExactTellsUptoRow : OpenClaim := { program := "ytcjanlbhgfadpaa", sum := "655ecf10fdcd3bf8d997fe22254a58516562d549923ff08ecfff462a9e1e9271", func := "loop.example/strategiesthatspread/laws.FnExactTells", spec := "fnExactTells", unfollowed := true, recurses := true, apart := false, narrowed := true }
def FnExactTellsUptoSaid : Prop := fnExactTellsUptoRow.holds Try.pinned (OpenSpec.upto fnExactTellsSpec)

/-- 'laws.FnExactHonestCost', WHERE WHAT IT READS IS OF BULK AT MOST 1048576: true; the input reads as it did. -/
def fnExactHonestCostUptoRow : OpenClaim := { program := "ytcjanlbhgfadpaa", sum := "655ecf10fdcd3bf8d997fe22254a58516562d549923ff08ecfff462a9e1e9271", func := "loop.example/strategiesthatspread/laws.FnExactHonestCost", spec := "fnExactHonestCost", unfollowed := true, recurses := true, apart := false, narrowed := true }
def FnExactHonestCostUptoSaid : Prop := fnExactHonestCostUptoRow.holds Try.pinned (OpenSpec.upto fnExactHonestCostSpec)

end Rows
end Go.Proofs.Ytcjanlbhgfadpaa
