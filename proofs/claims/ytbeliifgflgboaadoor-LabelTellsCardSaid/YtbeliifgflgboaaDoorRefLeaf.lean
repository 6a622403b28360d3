/- Contracts of the small functions of the document's own answers (package sculleryref1): Wide, one, small, Good. No conditions. -/
import Derived.Test.YtbeliifgflgboaaDoorA
set_option linter.unusedVariables false
set_option linter.unusedSimpArgs false
namespace Go.Proofs.YtbeliifgflgboaaDoor
open Go.RowKit

theorem refWide_any (r : Int) (w : World) : Calls Tryd.prog 36 #[.int .i32 r] w fun e w' => e = .returned (.bool (wideB r)) ∧ w = w' := by
  by_cases h1 : 19968 ≤ r <;> by_cases h2 : r ≤ 40959
  all_goals
    have hw : wideB r = decide (19968 ≤ r ∧ r ≤ 40959) := rfl
    simp only [h1, h2, and_self, and_false, false_and, decide_true, decide_false] at hw
    rw [hw]; clear hw
    go_enter Tryd.func36, Tryd.ntmps36
    go_wp2
    go_ret
    exact ⟨rfl, rfl⟩
theorem refOne_any (r : Int) (w : World) : Calls Tryd.prog 29 #[.int .i32 r] w fun e w' => e = .returned (.int .i64 (colsI r)) ∧ w = w' := by
  have hd : colsI r = if wideB r then 2 else 1 := rfl
  by_cases h1 : wideB r = true
  all_goals
    simp only [h1] at hd
    have h2 := h1
    try simp only [Bool.not_eq_true] at h2
    rw [hd]; clear hd h1
    go_enter Tryd.func29, Tryd.ntmps29
    go_wp2_with (go_at_call 36; refine (refWide_any _ _).mono ?_; rintro e w' ⟨rfl, rfl⟩)
    go_ret
    exact ⟨rfl, rfl⟩
def smallR (r : Int) : Int := if (65 ≤ r ∧ r ≤ 90) ∨ (192 ≤ r ∧ r ≤ 222 ∧ r ≠ 215) ∨ (913 ≤ r ∧ r ≤ 937 ∧ r ≠ 930) then r + 32 else if r = 962 then 963 else r
theorem smallR_good {r : Int} (h : goodB r = true) : smallR r = smallI r := by
  unfold goodB at h
  have hg := of_decide_eq_true h
  unfold goodP at hg
  unfold smallR smallI
  by_cases c : (65 ≤ r ∧ r ≤ 90) ∨ (192 ≤ r ∧ r ≤ 222) ∨ (913 ≤ r ∧ r ≤ 937)
  · rw [if_pos c, if_pos (by omega)]
  · rw [if_neg c, if_neg (by omega)]
def RetS (n : Int) (e : Ending) : Prop := e = .returned (.int .i32 n)
theorem ret_S {a n : Int} (h : a = n) : RetS n (.returned (.int .i32 a)) := by unfold RetS; rw [h]
set_option maxHeartbeats 1000000 in
theorem refSmall_ret (r : Int) (w : World) : Calls Tryd.prog 34 #[.int .i32 r] w fun e w' => RetS (smallR r) e ∧ w = w' := by
  go_enter Tryd.func34, Tryd.ntmps34
  go_wp2
  all_goals go_ret
  all_goals
    refine ⟨ret_S ?_, rfl⟩
    try simp only [beq_iff_eq, beq_eq_false_iff_ne, bne_iff_ne, ne_eq, bne_eq_false_iff_eq] at *
    unfold smallR
    first
      | (rw [if_pos (by omega)]; done)
      | (rw [if_pos (by omega)]; omega)
      | (rw [if_neg (by omega), if_pos (by omega)])
      | (rw [if_neg (by omega), if_neg (by omega)])
theorem refSmall_any (r : Int) (w : World) : Calls Tryd.prog 34 #[.int .i32 r] w fun e w' => e = .returned (.int .i32 (smallR r)) ∧ w = w' := refSmall_ret r w
theorem wideB_not (r : Int) : wideB r = false ↔ ¬ (19968 ≤ r ∧ r ≤ 40959) := by simp [wideB]
set_option maxHeartbeats 1000000 in
theorem refGood_ret (r : Int) (w : World) : Calls Tryd.prog 22 #[.int .i32 r] w fun e w' => Ret (goodB r) e ∧ w = w' := by
  go_enter Tryd.func22, Tryd.ntmps22
  go_wp2_with (go_at_call 36; refine (refWide_any _ _).mono ?_; rintro e w' ⟨rfl, rfl⟩)
  all_goals go_ret
  all_goals
    refine ⟨ret_good ?_, rfl⟩
    try simp only [beq_iff_eq, beq_eq_false_iff_ne, wideB_iff, wideB_not, bne_iff_ne, ne_eq, bne_eq_false_iff_eq] at *
    try simp only [wideB_iff, Bool.and_eq_true, Bool.or_eq_true, decide_eq_true_eq, bne_iff_ne, eq_self_iff_true, true_iff, ne_eq, Bool.false_eq_true, false_iff]
    unfold goodP
    omega
theorem refGood_any (r : Int) (w : World) : Calls Tryd.prog 22 #[.int .i32 r] w fun e w' => e = .returned (.bool (goodB r)) ∧ w = w' := refGood_ret r w
end Go.Proofs.YtbeliifgflgboaaDoor
