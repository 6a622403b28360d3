/- The document's own Size, Each, Parts of entries: the same answers as seg's. No conditions. -/
import Derived.Test.YtgdnpgijaijlhaaSegHow
set_option linter.unusedVariables false
set_option linter.unusedSimpArgs false
namespace Go.Proofs.Ytgdnpgijaijlhaa
open Go.RowKit

def sizeB (x : Int) : Bool := decide (128 ≤ x ∧ x ≤ 256)
theorem refsize_any (x : Int) (w : World) : Calls Try.prog 29 #[.int .i64 x] w fun e w' => e = .returned (.bool (sizeB x)) ∧ w = w' := by
  by_cases h0 : 128 ≤ x
  · by_cases h1 : x ≤ 256
    · rw [show sizeB x = true from decide_eq_true ⟨h0, h1⟩]
      go_enter Try.func29, Try.ntmps29
      go_wp2
      go_ret
      exact ⟨by simp, rfl⟩
    · rw [show sizeB x = false from decide_eq_false fun h => h1 h.2]
      go_enter Try.func29, Try.ntmps29
      go_wp2
      go_ret
      exact ⟨by simp, rfl⟩
  · rw [show sizeB x = false from decide_eq_false fun h => h0 h.1]
    go_enter Try.func29, Try.ntmps29
    go_wp2
    go_ret
    exact ⟨by simp, rfl⟩
theorem refeach_any (x : Int) (w : World) : Calls Try.prog 27 #[.int .i64 x] w fun e w' => e = .returned (.int .i64 (eachI x)) ∧ w = w' := by
  have HS := Lib.hid (refsize_any x w)
  by_cases h : 128 ≤ x ∧ x ≤ 256
  · rw [eachI_yes h]
    rw [show sizeB x = true from decide_eq_true h] at HS
    obtain ⟨h0, h1⟩ := h
    go_enter Try.func27, Try.ntmps27
    go_wp2_with fail
    refine HS.out.mono ?_
    rintro e w' ⟨rfl, rfl⟩
    go_wp2
    go_ret
    exact ⟨rfl, rfl⟩
  · rw [eachI_no h]
    rw [show sizeB x = false from decide_eq_false h] at HS
    clear h
    go_enter Try.func27, Try.ntmps27
    go_wp2_with fail
    refine HS.out.mono ?_
    rintro e w' ⟨rfl, rfl⟩
    go_wp2
    go_ret
    exact ⟨rfl, rfl⟩
set_option maxHeartbeats 2000000 in
theorem refparts_any (x m : Int) (w : World) (hm : m ≤ 9223372036854775807) : Calls Try.prog 28 #[.int .i64 x, .int .i64 m] w fun e w' => e = .returned (.int .i64 (partsI x m)) ∧ w = w' := by
  have HS := Lib.hid (refsize_any x w)
  have HE := Lib.hid (refeach_any x w)
  by_cases h : 128 ≤ x ∧ x ≤ 256
  · rw [show sizeB x = true from decide_eq_true h] at HS
    have hq5 : 5 ≤ eachI x := by rw [eachI_yes h]; omega
    have hq1 := (eachI_bd x).2
    by_cases h0 : m < 0
    · rw [partsI_none (Or.inr h0)]
      clear h
      go_enter Try.func28, Try.ntmps28
      go_wp2_with fail
      refine HS.out.mono ?_
      rintro e w' ⟨rfl, rfl⟩
      go_wp2
      go_ret
      exact ⟨rfl, rfl⟩
    have hne : ¬(eachI x = 0 ∨ m < 0) := by omega
    obtain ⟨q, HQ⟩ : ∃ q, Hid (eachI x = q) := ⟨_, rfl⟩
    rw [HQ.out] at HE hq5 hq1
    have hqz : (q == 0) = false := by simp; omega
    have h2 : 0 ≤ m / q := Int.ediv_nonneg (by omega) (by omega)
    have h3 : m / q ≤ 4000000000000000000 := Int.ediv_le_of_le_mul (by omega) (by omega)
    have h6 : 0 ≤ m % q := Int.emod_nonneg _ (by omega)
    clear h
    by_cases h4 : m % q = 0
    · have b4 : (m % q == 0) = true := by simpa using h4
      have b4' : (m % q != 0) = false := by simpa using h4
      by_cases h5 : m = 0
      · rw [partsI_more hne (Or.inr h5), HQ.out]
        subst h5
        clear hne h4 h2 h3 h6 b4 b4'
        go_enter Try.func28, Try.ntmps28
        go_wp2_with fail
        refine HS.out.mono ?_
        rintro e w' ⟨rfl, rfl⟩
        go_wp2_with fail
        refine HE.out.mono ?_
        rintro e w' ⟨rfl, rfl⟩
        go_wp2_with fail
        refine HE.out.mono ?_
        rintro e w' ⟨rfl, rfl⟩
        go_wp2
        go_ret
        exact ⟨by simp, rfl⟩
      · rw [partsI_even hne (fun h => by rw [HQ.out] at h; omega), HQ.out]
        have b5 : (m == 0) = false := by simpa using h5
        go_enter Try.func28, Try.ntmps28
        go_wp2_with fail
        refine HS.out.mono ?_
        rintro e w' ⟨rfl, rfl⟩
        go_wp2_with fail
        refine HE.out.mono ?_
        rintro e w' ⟨rfl, rfl⟩
        go_wp2_with fail
        refine HE.out.mono ?_
        rintro e w' ⟨rfl, rfl⟩
        go_wp2
        go_ret
        exact ⟨rfl, rfl⟩
    · rw [partsI_more hne (Or.inl (by rw [HQ.out]; omega)), HQ.out]
      have b4 : (m % q == 0) = false := by simpa using h4
      have b4' : (m % q != 0) = true := by simpa using h4
      go_enter Try.func28, Try.ntmps28
      go_wp2_with fail
      refine HS.out.mono ?_
      rintro e w' ⟨rfl, rfl⟩
      go_wp2_with fail
      refine HE.out.mono ?_
      rintro e w' ⟨rfl, rfl⟩
      go_wp2_with fail
      refine HE.out.mono ?_
      rintro e w' ⟨rfl, rfl⟩
      go_wp2
      go_ret
      exact ⟨rfl, rfl⟩
  · rw [partsI_none (Or.inl (eachI_no h))]
    rw [show sizeB x = false from decide_eq_false h] at HS
    clear h
    go_enter Try.func28, Try.ntmps28
    go_wp2_with fail
    refine HS.out.mono ?_
    rintro e w' ⟨rfl, rfl⟩
    go_wp2
    go_ret
    exact ⟨rfl, rfl⟩
end Go.Proofs.Ytgdnpgijaijlhaa
