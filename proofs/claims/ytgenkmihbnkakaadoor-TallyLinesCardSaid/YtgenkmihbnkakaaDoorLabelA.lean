/- Contracts of the small functions of package label: which runes are good, which are wide. No conditions. -/
import Derived.Test.YtgenkmihbnkakaaDoorLabelLeaf
import Derived.WalkKit
set_option linter.unusedVariables false
set_option linter.unusedSimpArgs false
set_option maxRecDepth 20000
namespace Go.Proofs.YtgenkmihbnkakaaDoor
open Go.RowKit

def colsI (r : Int) : Int := if wideB r then 2 else 1

theorem cols_any (r : Int) (w : World) : Calls Tryd.prog 41 #[.int .i32 r] w fun e w' => e = .returned (.int .i64 (colsI r)) ∧ w = w' := by
  have hd : colsI r = if wideB r then 2 else 1 := rfl
  by_cases h1 : wideB r = true
  all_goals
    simp only [h1] at hd
    have h2 := h1
    try simp only [Bool.not_eq_true] at h2
    rw [hd]; clear hd h1
    go_enter Tryd.func41, Tryd.ntmps41
    go_wp2_with (go_at_call 52; refine (wide_any _ _).mono ?_; rintro e w' ⟨rfl, rfl⟩)
    go_ret
    exact ⟨rfl, rfl⟩

def goodP (r : Int) : Prop := (48 ≤ r ∧ r ≤ 57) ∨ (65 ≤ r ∧ r ≤ 90) ∨ (97 ≤ r ∧ r ≤ 122) ∨ r = 45 ∨ r = 95 ∨ (192 ≤ r ∧ r ≤ 255 ∧ r ≠ 215 ∧ r ≠ 247) ∨ (913 ≤ r ∧ r ≤ 937 ∧ r ≠ 930) ∨ (945 ≤ r ∧ r ≤ 969) ∨ (19968 ≤ r ∧ r ≤ 40959)
instance (r : Int) : Decidable (goodP r) := by unfold goodP; infer_instance
def goodB (r : Int) : Bool := decide (goodP r)
def Ret (b : Bool) (e : Ending) : Prop := e = .returned (.bool b)
theorem ret_good {b : Bool} {r : Int} (h : b = true ↔ goodP r) : Ret (goodB r) (.returned (.bool b)) := by
  unfold Ret goodB
  have : b = decide (goodP r) := by rw [Bool.eq_iff_iff]; simpa using h
  rw [this]
theorem wideB_iff (r : Int) : wideB r = true ↔ (19968 ≤ r ∧ r ≤ 40959) := by simp [wideB]

theorem good_ret (r : Int) (w : World) : Calls Tryd.prog 40 #[.int .i32 r] w fun e w' => Ret (goodB r) e ∧ w = w' := by
  go_enter Tryd.func40, Tryd.ntmps40
  go_wp2_with (go_at_call 52; refine (wide_any _ _).mono ?_; rintro e w' ⟨rfl, rfl⟩)
  all_goals go_ret
  all_goals
    refine ⟨ret_good ?_, rfl⟩
    try simp only [beq_iff_eq, beq_eq_false_iff_ne] at *
    try simp only [wideB_iff, Bool.and_eq_true, bne_iff_ne, eq_self_iff_true, true_iff, ne_eq, Bool.false_eq_true, false_iff]
    unfold goodP
    omega
theorem good_any (r : Int) (w : World) : Calls Tryd.prog 40 #[.int .i32 r] w fun e w' => e = .returned (.bool (goodB r)) ∧ w = w' := good_ret r w

/- the small letter of a good rune -/
def smallI (r : Int) : Int := if (65 ≤ r ∧ r ≤ 90) ∨ (192 ≤ r ∧ r ≤ 222) ∨ (913 ≤ r ∧ r ≤ 937) then r + 32 else if r = 962 then 963 else r
end Go.Proofs.YtgenkmihbnkakaaDoor
