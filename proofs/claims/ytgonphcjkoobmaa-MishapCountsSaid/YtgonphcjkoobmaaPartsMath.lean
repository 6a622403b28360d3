/- Mishaps that may be, in plain words: each by itself, and rising; what is left of them behind a number. No conditions. -/
import Derived.Test.YtgonphcjkoobmaaMishAwake
set_option linter.unusedVariables false
set_option linter.unusedSimpArgs false
namespace Go.Proofs.Ytgonphcjkoobmaa
open Go.RowKit

theorem getM_at {ms : List M} {k : Nat} (h : k < ms.length) : getM ms k = ms[k] := by
  unfold getM
  rw [List.getD_eq_getElem?_getD, List.getElem?_eq_getElem h]; rfl
theorem stepM_out {ms : List M} {k : Nat} (h : stepM ms k = true) : okM (getM ms k) = true ∧ (0 < k → (getM ms (k - 1)).at_ < (getM ms k).at_) := by
  unfold stepM at h
  rw [Bool.and_eq_true, Bool.or_eq_true] at h
  refine ⟨h.1, fun hk => ?_⟩
  rcases h.2 with h3 | h3
  · simp at h3; omega
  · exact of_decide_eq_true h3
theorem mayM_iff (ms : List M) : mayM ms = true ↔ ms.length ≤ 24 ∧ (∀ m ∈ ms, okM m = true) ∧ ms.Pairwise fun a b => a.at_ < b.at_ := by
  constructor
  · intro h
    obtain ⟨h1, h2⟩ := mayM_out h
    refine ⟨h1, fun m hm => ?_, ?_⟩
    · obtain ⟨i, hi, rfl⟩ := List.mem_iff_getElem.1 hm
      rw [← getM_at hi]; exact (stepM_out (h2 i hi)).1
    · rw [List.pairwise_iff_getElem]
      intro i j hi hj hij
      obtain ⟨d, rfl⟩ : ∃ d, j = i + 1 + d := ⟨j - (i + 1), by omega⟩
      clear hij
      induction d with
      | zero =>
        have := (stepM_out (h2 _ hj)).2 (by omega)
        rwa [getM_at hj, show i + 1 + 0 - 1 = i by omega, getM_at hi] at this
      | succ d ih =>
        have h3 := ih (by omega)
        have := (stepM_out (h2 _ hj)).2 (by omega)
        rw [getM_at hj, show i + 1 + (d + 1) - 1 = i + 1 + d by omega, getM_at (by omega)] at this
        omega
  · rintro ⟨h1, h2, h3⟩
    refine mayM_yes h1 fun k hk => ?_
    unfold stepM
    rw [Bool.and_eq_true, Bool.or_eq_true]
    refine ⟨by rw [getM_at hk]; exact h2 _ (List.getElem_mem hk), ?_⟩
    by_cases h0 : k = 0
    · left; simp [h0]
    · right
      rw [getM_at hk, getM_at (k := k - 1) (by omega)]
      exact decide_eq_true (List.pairwise_iff_getElem.1 h3 (k - 1) k (by omega) hk (by omega))
/-- Each is found at its own number. -/
theorem atM_self {ms : List M} (h : mayM ms = true) {k : Nat} (hk : k < ms.length) : atM (getM ms k).at_ ms = some (getM ms k) := by
  refine atM_hit hk rfl fun j hj => ?_
  have := List.pairwise_iff_getElem.1 ((mayM_iff ms).1 h).2.2 j k (by omega) hk hj
  rw [getM_at (show j < ms.length by omega), getM_at hk]
  omega
theorem afterM_sub (x : Int) (ms : List M) : (afterM x ms).Sublist ms := List.filter_sublist
theorem mayM_after {ms : List M} (h : mayM ms = true) (x : Int) : mayM (afterM x ms) = true := by
  obtain ⟨h1, h2, h3⟩ := (mayM_iff ms).1 h
  exact (mayM_iff _).2 ⟨Nat.le_trans (afterM_len x ms) h1, fun m hm => h2 m ((afterM_sub x ms).subset hm), h3.sublist (afterM_sub x ms)⟩
theorem afterM_after {lo hi : Int} (h : lo ≤ hi) (ms : List M) : afterM hi (afterM lo ms) = afterM hi ms := by
  unfold afterM
  rw [List.filter_filter]
  congr 1
  funext m
  by_cases h1 : hi < m.at_
  · simp [h1]; omega
  · simp [h1]
theorem afterM_wf {ms : List M} (h : ∀ m ∈ ms, MWf m) (x : Int) : ∀ m ∈ afterM x ms, MWf m := fun m hm => h m ((afterM_sub x ms).subset hm)
theorem max_at (ts : Array TypeId) (ty : TypeId) (p q m : Int) (h : (q ≤ p ∧ m = p) ∨ (p ≤ q ∧ m = q)) (w : World) : (Builtin.max_ ts ty #[.int .i64 p, .int .i64 q]).run Try.prog w = .ok (.int .i64 m) w := by
  simp only [Builtin.max_]
  rcases h with ⟨h, rfl⟩ | ⟨h, rfl⟩
  · simp [Builtin.max2]; omega
  · simp [Builtin.max2]; omega
end Go.Proofs.Ytgonphcjkoobmaa
