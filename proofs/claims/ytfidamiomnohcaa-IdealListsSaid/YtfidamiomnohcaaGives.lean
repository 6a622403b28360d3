/- What a call that answers numbers leaves: one, or a new row of them. No conditions. -/
import Derived.Test.YtfidamiomnohcaaKinds
import Derived.Test.YtfidamiomnohcaaInts
set_option linter.unusedVariables false
set_option linter.unusedSimpArgs false
set_option maxRecDepth 20000
namespace Go.Proofs.Ytfidamiomnohcaa
open Go.RowKit

/-- What a call that answers a new row of numbers leaves. -/
def GivesI (w : World) (xs : List Int) (e : Ending) (w' : World) : Prop := ∃ A n c, e = .returned (.slice A n c) ∧ Hid (intK.Row w' w.heap.size A n c xs) ∧ Hid (Below w.heap.size w w')
/-- What a call that answers a number leaves. -/
def SaysI (w : World) (x : Int) (e : Ending) (w' : World) : Prop := e = .returned (.int .i64 x) ∧ Hid (Below w.heap.size w w')
end Go.Proofs.Ytfidamiomnohcaa
