/- Contracts of the small functions of package label: which runes are good, which are wide. No conditions. -/
import Derived.Test.YtgenkmihbnkakaaDoorProg
import Derived.WalkKit
set_option linter.unusedVariables false
set_option linter.unusedSimpArgs false
set_option maxRecDepth 20000
namespace Go.Proofs.YtgenkmihbnkakaaDoor
open Go.RowKit

def wideB (r : Int) : Bool := decide (19968 ≤ r ∧ r ≤ 40959)

theorem wide_any (r : Int) (w : World) : Calls Tryd.prog 52 #[.int .i32 r] w fun e w' => e = .returned (.bool (wideB r)) ∧ w = w' := by
  by_cases h1 : 19968 ≤ r <;> by_cases h2 : r ≤ 40959
  all_goals
    have hw : wideB r = decide (19968 ≤ r ∧ r ≤ 40959) := rfl
    simp only [h1, h2, and_self, and_false, false_and, decide_true, decide_false] at hw
    rw [hw]; clear hw
    go_enter Tryd.func52, Tryd.ntmps52
    go_wp2
    go_ret
    exact ⟨rfl, rfl⟩
end Go.Proofs.YtgenkmihbnkakaaDoor
