/- The runs of comparisons and sums of numbers, of comparisons of bools and errors, by what they answer. No conditions. -/
import Derived.Test.YtfidamiomnohcaaRegion7
import Derived.Test.YtfidamiomnohcaaBits1
set_option linter.unusedVariables false
set_option linter.unusedSimpArgs false
set_option maxRecDepth 20000
namespace Go.Proofs.Ytfidamiomnohcaa
open Go.RowKit

section
variable (x y : Operand) (w : World)
theorem bin_eql (p q : Int) (b : Bool) (h : (p == q) = b) : (do eqGuard .eql 3 x y (.int .i64 p) (.int .i64 q); binOp .eql 3 (.int .i64 p) (.int .i64 q)).run Try.prog w = .ok (.bool b) w := by subst h; go_simp
theorem bin_neq (p q : Int) (b : Bool) (h : (p != q) = b) : (do eqGuard .neq 3 x y (.int .i64 p) (.int .i64 q); binOp .neq 3 (.int .i64 p) (.int .i64 q)).run Try.prog w = .ok (.bool b) w := by subst h; go_simp
theorem bin_lss (p q : Int) (b : Bool) (h : decide (p < q) = b) : (do eqGuard .lss 3 x y (.int .i64 p) (.int .i64 q); binOp .lss 3 (.int .i64 p) (.int .i64 q)).run Try.prog w = .ok (.bool b) w := by subst h; go_simp
theorem bin_leq (p q : Int) (b : Bool) (h : decide (p ≤ q) = b) : (do eqGuard .leq 3 x y (.int .i64 p) (.int .i64 q); binOp .leq 3 (.int .i64 p) (.int .i64 q)).run Try.prog w = .ok (.bool b) w := by subst h; go_simp
theorem bin_gtr (p q : Int) (b : Bool) (h : decide (q < p) = b) : (do eqGuard .gtr 3 x y (.int .i64 p) (.int .i64 q); binOp .gtr 3 (.int .i64 p) (.int .i64 q)).run Try.prog w = .ok (.bool b) w := by subst h; go_simp
theorem bin_geq (p q : Int) (b : Bool) (h : decide (q ≤ p) = b) : (do eqGuard .geq 3 x y (.int .i64 p) (.int .i64 q); binOp .geq 3 (.int .i64 p) (.int .i64 q)).run Try.prog w = .ok (.bool b) w := by subst h; go_simp
theorem bin_add (p q r : Int) (h : p + q = r) (h0 : -9223372036854775808 ≤ r) (h1 : r ≤ 9223372036854775807) : (do eqGuard .add 3 x y (.int .i64 p) (.int .i64 q); binOp .add 3 (.int .i64 p) (.int .i64 q)).run Try.prog w = .ok (.int .i64 r) w := by subst h; go_simp; rw [IntKind.wrap_i64]; omega
theorem bin_sub (p q r : Int) (h : p - q = r) (h0 : -9223372036854775808 ≤ r) (h1 : r ≤ 9223372036854775807) : (do eqGuard .sub 3 x y (.int .i64 p) (.int .i64 q); binOp .sub 3 (.int .i64 p) (.int .i64 q)).run Try.prog w = .ok (.int .i64 r) w := by subst h; go_simp; rw [IntKind.wrap_i64]; omega
theorem bin_and (p q r : Int) (h : bits .and .i64 p q = r) : (do eqGuard .and 3 x y (.int .i64 p) (.int .i64 q); binOp .and 3 (.int .i64 p) (.int .i64 q)).run Try.prog w = .ok (.int .i64 r) w := by subst h; go_simp
theorem bin_shr (p : Int) (k : Nat) (hk : k < 64) (r : Int) (h : p / 2 ^ k = r) : (do eqGuard .shr 3 x y (.int .i64 p) (.int .i64 (k : Int)); binOp .shr 3 (.int .i64 p) (.int .i64 (k : Int))).run Try.prog w = .ok (.int .i64 r) w := by
  have i0 : (0 : Int) ≤ (k : Int) := by omega
  go_simp
theorem bin_eqlB (p q : Bool) (b : Bool) (h : (p == q) = b) : (do eqGuard .eql 4 x y (.bool p) (.bool q); binOp .eql 4 (.bool p) (.bool q)).run Try.prog w = .ok (.bool b) w := by subst h; go_simp
theorem bin_neqB (p q : Bool) (b : Bool) (h : (p != q) = b) : (do eqGuard .neq 4 x y (.bool p) (.bool q); binOp .neq 4 (.bool p) (.bool q)).run Try.prog w = .ok (.bool b) w := by cases p <;> cases q <;> (subst h; go_simp)
end
section
variable {P : Program} {a : Act} {o : Oper} {w w' : World}
theorem run_op_pickF {c x y : Operand} {v : Value} (ho : o.op = .pick c x y) (hc : a.eval c = .bool false) (hx : a.eval y = v) : (execOp a.eval o).run P w = .ok (.value v) w := by
  unfold execOp
  simp only [ho, hc, hx]
  rfl
end
end Go.Proofs.Ytfidamiomnohcaa
