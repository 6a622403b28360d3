/- What a call that answers numbers leaves: one, or a new row of them. No conditions. -/
import Derived.Test.YthamnmadgfmbkaaKinds
set_option linter.unusedVariables false
set_option linter.unusedSimpArgs false
namespace Go.Proofs.Ythamnmadgfmbkaa
open Go.RowKit

/-- What a call that answers a number leaves. -/
def SaysI (w : World) (x : Int) (e : Ending) (w' : World) : Prop := e = .returned (.int .i64 x) ∧ Hid (Below w.heap.size w w')
end Go.Proofs.Ythamnmadgfmbkaa
