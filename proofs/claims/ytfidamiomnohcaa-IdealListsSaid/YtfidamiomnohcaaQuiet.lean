/- Calls whose answer is a bool or a number, in a region that draws its order, where nothing old turns. No conditions. -/
import Derived.Test.YtfidamiomnohcaaSays
import Derived.Lib.QuietBelow
import Derived.BigQuiet
set_option linter.unusedVariables false
set_option linter.unusedSimpArgs false
set_option maxRecDepth 20000
namespace Go.Proofs.Ytfidamiomnohcaa
open Go.RowKit Go.Sort

theorem quiet_says {P : Program} {f : FuncId} {args : Array Value} {W : World} {d : Nat} {os : Array Obj} {b : Bool} (h : Calls P f args (grow (redrawn W d) os) (SaysB (grow (redrawn W d) os) b)) :
    Calls P f args (grow (redrawn W d) os) fun e w'' => e = .returned (.bool b) ∧ ∃ p : Regrown, w'' = grow (redrawn W p.d) p.os := Calls.regrown_of (h.mono fun e w' h => ⟨h.1, h.2.out⟩)
theorem quiet_same {P : Program} {f : FuncId} {args : Array Value} {W : World} {d : Nat} {os : Array Obj} {v : Value} (h : Calls P f args (grow (redrawn W d) os) fun e w' => e = .returned v ∧ grow (redrawn W d) os = w') :
    Calls P f args (grow (redrawn W d) os) fun e w'' => e = .returned v ∧ ∃ p : Regrown, w'' = grow (redrawn W p.d) p.os := Calls.regrown_of (h.mono fun e w' h => ⟨h.1, h.2 ▸ Below.refl _ _⟩)
end Go.Proofs.Ytfidamiomnohcaa
