/- The contracts of what the statements share: Low, Num of nil, SameBytes, Great, LendBytes, KeptBytes. Conditions: the slices' cells; at most 900 bytes are lent. -/
import Derived.Test.YtgenkmihbnkakaaDoorBase
set_option linter.unusedVariables false
set_option linter.unusedSimpArgs false
set_option maxRecDepth 20000
namespace Go.Proofs.YtgenkmihbnkakaaDoor
open Go.RowKit

def lowM (x n : Int) : Int := IntKind.u64.wrap x % n
theorem lowM_bd (x n : Int) (hn : 1 ≤ n) : 0 ≤ lowM x n ∧ lowM x n < n := by
  unfold lowM
  exact ⟨Int.emod_nonneg _ (by omega), Int.emod_lt_of_pos _ (by omega)⟩
theorem low_any (x n : Int) (hn : 1 ≤ n) (hn2 : n ≤ 1000000) (w : World) :
    Calls Tryd.prog 16 #[.int .i64 x, .int .i64 n] w fun e w' => e = .returned (.int .i64 (lowM x n)) ∧ w = w' := by
  have h0 : 0 ≤ IntKind.u64.wrap x := by rw [IntKind.wrap_u64]; omega
  have h2 := Int.emod_nonneg (IntKind.u64.wrap x) (show n ≠ 0 by omega)
  have h3 := Int.emod_lt_of_pos (IntKind.u64.wrap x) (show 0 < n by omega)
  go_enter Tryd.func16, Tryd.ntmps16
  go_wp2
  go_ret
  exact ⟨rfl, rfl⟩
def SomeBool (w : World) (e : Ending) (w' : World) : Prop := ∃ b : Bool, e = .returned (.bool b) ∧ w = w'
def sameB (a b : List Nat) : Bool := decide (a = b)
end Go.Proofs.YtgenkmihbnkakaaDoor
