/- Tables drawn from bytes. -/
import Derived.Test.YtfilbknikbfjhaaR8
namespace Go.Proofs.Ytfilbknikbfjhaa
open Go.RowKit

/-- A table of small numbers, in memory of its own. -/
def DrawnT (w : World) (e : Ending) (w' : World) : Prop :=
  ∃ Av n c gg xss, e = .returned (.slice Av n c) ∧ Small xss ∧ OwnR w.heap.size w'.heap.size w' gg Av n c xss ∧ Below w.heap.size w w'

end Go.Proofs.Ytfilbknikbfjhaa
