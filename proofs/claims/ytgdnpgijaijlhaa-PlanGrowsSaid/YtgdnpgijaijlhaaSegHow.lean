/- How many entries a part has, how many parts there are: the contracts of seg's Each and Parts. No conditions. -/
import Derived.Test.YtgdnpgijaijlhaaSays
set_option linter.unusedVariables false
set_option linter.unusedSimpArgs false
namespace Go.Proofs.Ytgdnpgijaijlhaa
open Go.RowKit

/- how many -/
def eachI (x : Int) : Int := if 128 ≤ x ∧ x ≤ 256 then (x - 42) / 15 else 0
theorem eachI_yes {x : Int} (h : 128 ≤ x ∧ x ≤ 256) : eachI x = (x - 42) / 15 := if_pos h
theorem eachI_no {x : Int} (h : ¬(128 ≤ x ∧ x ≤ 256)) : eachI x = 0 := if_neg h
theorem eachI_bd (x : Int) : 0 ≤ eachI x ∧ eachI x ≤ 14 := by
  unfold eachI
  split <;> omega
theorem each_any (x : Int) (w : World) : Calls Try.prog 24 #[.int .i64 x] w fun e w' => e = .returned (.int .i64 (eachI x)) ∧ w = w' := by
  by_cases h0 : 128 ≤ x
  · by_cases h1 : x ≤ 256
    · rw [eachI_yes ⟨h0, h1⟩]
      go_enter Try.func24, Try.ntmps24
      go_wp2
      go_ret
      exact ⟨rfl, rfl⟩
    · rw [eachI_no (fun h => h1 h.2)]
      go_enter Try.func24, Try.ntmps24
      go_wp2
      go_ret
      exact ⟨rfl, rfl⟩
  · rw [eachI_no (fun h => h0 h.1)]
    go_enter Try.func24, Try.ntmps24
    go_wp2
    go_ret
    exact ⟨rfl, rfl⟩
def partsI (x m : Int) : Int := if eachI x = 0 ∨ m < 0 then 0 else m / eachI x + (if 0 < m % eachI x ∨ m = 0 then 1 else 0)
theorem partsI_none {x m : Int} (h : eachI x = 0 ∨ m < 0) : partsI x m = 0 := if_pos h
theorem partsI_more {x m : Int} (h : ¬(eachI x = 0 ∨ m < 0)) (k : 0 < m % eachI x ∨ m = 0) : partsI x m = m / eachI x + 1 := by unfold partsI; rw [if_neg h, if_pos k]
theorem partsI_even {x m : Int} (h : ¬(eachI x = 0 ∨ m < 0)) (k : ¬(0 < m % eachI x ∨ m = 0)) : partsI x m = m / eachI x := by unfold partsI; rw [if_neg h, if_neg k, Int.add_zero]
set_option maxHeartbeats 2000000 in
theorem parts_any (x m : Int) (w : World) (hm : m ≤ 9223372036854775807) : Calls Try.prog 23 #[.int .i64 x, .int .i64 m] w fun e w' => e = .returned (.int .i64 (partsI x m)) ∧ w = w' := by
  have HE := Lib.hid (each_any x w)
  have hb := eachI_bd x
  obtain ⟨q, HQ⟩ : ∃ q, Hid (eachI x = q) := ⟨_, rfl⟩
  rw [HQ.out] at HE hb
  obtain ⟨hq0, hq1⟩ := hb
  by_cases hz : q = 0
  · rw [partsI_none (Or.inl (HQ.out.trans hz))]
    subst hz
    go_enter Try.func23, Try.ntmps23
    go_wp2_with fail
    refine HE.out.mono ?_
    rintro e w' ⟨rfl, rfl⟩
    go_wp2
    go_ret
    exact ⟨rfl, rfl⟩
  have hqz : (q == 0) = false := by simpa using hz
  by_cases h0 : m < 0
  · rw [partsI_none (Or.inr h0)]
    go_enter Try.func23, Try.ntmps23
    go_wp2_with fail
    refine HE.out.mono ?_
    rintro e w' ⟨rfl, rfl⟩
    go_wp2
    go_ret
    exact ⟨rfl, rfl⟩
  have hne : ¬(eachI x = 0 ∨ m < 0) := by rw [HQ.out]; omega
  have hq5 : 5 ≤ q := by
    rw [← HQ.out] at hz ⊢
    unfold eachI at hz ⊢
    split at hz <;> simp_all <;> omega
  have h2 : 0 ≤ m / q := Int.ediv_nonneg (by omega) hq0
  have h3 : m / q ≤ 4000000000000000000 := Int.ediv_le_of_le_mul (by omega) (by omega)
  by_cases h4 : 0 < m % q
  · rw [partsI_more hne (Or.inl (by rw [HQ.out]; exact h4)), HQ.out]
    go_enter Try.func23, Try.ntmps23
    go_wp2_with fail
    refine HE.out.mono ?_
    rintro e w' ⟨rfl, rfl⟩
    go_wp2
    go_ret
    exact ⟨rfl, rfl⟩
  by_cases h5 : m = 0
  · rw [partsI_more hne (Or.inr h5), HQ.out]
    subst h5
    go_enter Try.func23, Try.ntmps23
    go_wp2_with fail
    refine HE.out.mono ?_
    rintro e w' ⟨rfl, rfl⟩
    go_wp2
    go_ret
    exact ⟨by simp, rfl⟩
  · rw [partsI_even hne (fun h => by rw [HQ.out] at h; omega), HQ.out]
    have b5 : (m == 0) = false := by simpa using h5
    go_enter Try.func23, Try.ntmps23
    go_wp2_with fail
    refine HE.out.mono ?_
    rintro e w' ⟨rfl, rfl⟩
    go_wp2
    go_ret
    exact ⟨rfl, rfl⟩
end Go.Proofs.Ytgdnpgijaijlhaa
