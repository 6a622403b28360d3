/- What a call that answers a bool leaves. No conditions. -/
import Derived.Test.YtgenkmihbnkakaaDoorOwn
set_option linter.unusedVariables false
set_option linter.unusedSimpArgs false
set_option maxRecDepth 20000
namespace Go.Proofs.YtgenkmihbnkakaaDoor
open Go.RowKit

/-- What a call that answers a bool leaves. -/
def SaysB (w : World) (b : Bool) (e : Ending) (w' : World) : Prop := e = .returned (.bool b) ∧ Hid (Below w.heap.size w w')
theorem SaysB.same {w : World} {b b' : Bool} {e : Ending} {w' : World} (h : SaysB w b e w') (hb : b = b') : SaysB w b' e w' := hb ▸ h
theorem SaysB.plain {w w' : World} {b : Bool} {e : Ending} (h : SaysB w b e w') : e = .returned (.bool b) ∧ Below w.heap.size w w' := ⟨h.1, h.2.out⟩
end Go.Proofs.YtgenkmihbnkakaaDoor
