/- Entries at addresses by a step, put one by one, dropped one by one, as mathematics. No conditions; no program. -/
import Derived.Test.YthamnmadgfmbkaaTabMath
set_option linter.unusedVariables false
set_option linter.unusedSimpArgs false
namespace Go.Proofs.Ythamnmadgfmbkaa

/-- The i-th address. -/
def spA (f : Int) (s i : Nat) : Int := (f + (i : Int) * 2 ^ s) % 18446744073709551616
def spE (f : Int) (s i : Nat) : E := ⟨spA f s i, (i : Int), i % 2 == 0, 0⟩
def spL (f : Int) (s : Nat) : Nat → List E
  | 0 => []
  | i + 1 => putT (spL f s i) (spE f s i)
def spD (f : Int) (s n : Nat) : Nat → List E
  | 0 => spL f s n
  | i + 1 => dropT (spD f s n i) (spA f s i)
section
variable {f : Int} {s i j n k : Nat}
theorem spA_bd : 0 ≤ spA f s i ∧ spA f s i ≤ 18446744073709551615 := by
  unfold spA; omega
theorem spA_inj (hs : s ≤ 57) (hi : i ≤ 63) (hj : j ≤ 63) (h : spA f s i = spA f s j) : i = j := by
  unfold spA at h
  have hp : (2 : Int) ^ s ≤ 2 ^ 57 := by
    have : (2 : Nat) ^ s ≤ 2 ^ 57 := Nat.pow_le_pow_right (by decide) hs
    exact_mod_cast this
  have hp0 : (0 : Int) < 2 ^ s := Int.pow_pos (by decide)
  obtain ⟨p, hpe⟩ : ∃ p : Int, p = 2 ^ s := ⟨_, rfl⟩
  rw [← hpe] at h hp hp0
  have h1 : (i : Int) * p = (j : Int) * p := by
    have b1 : 0 ≤ (i : Int) * p := Int.mul_nonneg (by omega) (by omega)
    have b2 : 0 ≤ (j : Int) * p := Int.mul_nonneg (by omega) (by omega)
    have b3 : (i : Int) * p ≤ 63 * p := Int.mul_le_mul_of_nonneg_right (by omega) (by omega)
    have b4 : (j : Int) * p ≤ 63 * p := Int.mul_le_mul_of_nonneg_right (by omega) (by omega)
    have b5 : (63 : Int) * p < 18446744073709551616 := by
      have : (2 : Int) ^ 57 = 144115188075855872 := by decide
      omega
    omega
  have := Int.eq_of_mul_eq_mul_right (by omega) h1
  omega
theorem spE_wf (hi : i ≤ 63) : EWf (spE f s i) := ⟨spA_bd.1, spA_bd.2, by show _ ≤ (i : Int); omega, by show (i : Int) ≤ _; omega, by show (-9223372036854775808 : Int) ≤ 0; decide, by show (0 : Int) ≤ 9223372036854775807; decide⟩
theorem spL_get (hs : s ≤ 57) (hn : n ≤ 61) (hj : j ≤ 61) : getT (spL f s n) (spA f s j) = if j < n then some (spE f s j) else none := by
  induction n with
  | zero => rw [if_neg (Nat.not_lt_zero j)]; rfl
  | succ n ih =>
    show getT (putT (spL f s n) (spE f s n)) (spA f s j) = _
    rw [getT_put]
    by_cases e : spA f s n = spA f s j
    · have := spA_inj hs (by omega) (by omega) e
      subst this
      rw [if_pos (show (spE f s n).addr = spA f s n from rfl), if_pos (Nat.lt_succ_self n)]
    · rw [if_neg (show ¬ (spE f s n).addr = spA f s j from e), ih (by omega)]
      by_cases h : j < n
      · rw [if_pos h, if_pos (by omega)]
      · rw [if_neg h, if_neg]
        intro h2
        have : j = n := by omega
        subst this; exact e rfl
theorem spL_srt : Srt (spL f s n) := by
  induction n with
  | zero => exact srt_nil
  | succ n ih => exact srt_put ih _
theorem spL_len (hs : s ≤ 57) (hn : n ≤ 61) : (spL f s n).length = n := by
  induction n with
  | zero => rfl
  | succ n ih =>
    show (putT (spL f s n) (spE f s n)).length = _
    rw [len_put spL_srt, show getT (spL f s n) (spE f s n).addr = none from (spL_get hs (by omega) (by omega)).trans (if_neg (Nat.lt_irrefl n)), ih (by omega)]
theorem spL_dirty (hs : s ≤ 57) (hn : n ≤ 61) : dirtyT (spL f s n) = (n + 1) / 2 := by
  induction n with
  | zero => rfl
  | succ n ih =>
    show dirtyT (putT (spL f s n) (spE f s n)) = _
    rw [dirty_put_new spL_srt _ ((spL_get hs (by omega) (by omega)).trans (if_neg (Nat.lt_irrefl n))), ih (by omega)]
    show (n + 1) / 2 + (if (n % 2 == 0) = true then 1 else 0) = _
    by_cases h : n % 2 = 0
    · rw [if_pos (by simp [h])]; omega
    · rw [if_neg (by simp [h])]; omega
theorem spD_srt : Srt (spD f s n k) := by
  induction k with
  | zero => exact spL_srt
  | succ k ih => exact srt_drop ih _
theorem spD_get (hs : s ≤ 57) (hn : n ≤ 61) (hk : k ≤ 61) (hj : j ≤ 61) : getT (spD f s n k) (spA f s j) = if k ≤ j ∧ j < n then some (spE f s j) else none := by
  induction k with
  | zero =>
    rw [show spD f s n 0 = spL f s n from rfl, spL_get hs hn hj]
    by_cases h : j < n
    · rw [if_pos h, if_pos ⟨Nat.zero_le _, h⟩]
    · rw [if_neg h, if_neg (fun x => h x.2)]
  | succ k ih =>
    show getT (dropT (spD f s n k) (spA f s k)) (spA f s j) = _
    rw [getT_drop]
    by_cases e : spA f s j = spA f s k
    · have := spA_inj hs (by omega) (by omega) e
      subst this
      rw [if_pos rfl, if_neg (by omega)]
    · rw [if_neg e, ih (by omega)]
      have hne : j ≠ k := fun h => e (by rw [h])
      by_cases h : k ≤ j ∧ j < n
      · rw [if_pos h, if_pos (by omega)]
      · rw [if_neg h, if_neg (by omega)]
theorem spD_len (hs : s ≤ 57) (hn : n ≤ 61) (hk : k ≤ n) : (spD f s n k).length = n - k := by
  induction k with
  | zero => exact spL_len hs hn
  | succ k ih =>
    have h := len_drop (l := spD f s n k) spD_srt (spA f s k)
    rw [spD_get hs hn (by omega) (by omega), if_pos ⟨Nat.le_refl k, by omega⟩, ih (by omega)] at h
    show (dropT (spD f s n k) (spA f s k)).length = _
    dsimp only at h; omega
theorem spD_dirty (hs : s ≤ 57) (hn : n ≤ 61) (hk : k ≤ n) : dirtyT (spD f s n k) = (n + 1) / 2 - (k + 1) / 2 := by
  induction k with
  | zero => exact spL_dirty hs hn
  | succ k ih =>
    have h := dirty_drop (l := spD f s n k) spD_srt ((spD_get hs hn (k := k) (j := k) (by omega) (by omega)).trans (if_pos ⟨Nat.le_refl k, by omega⟩))
    rw [ih (by omega)] at h
    show dirtyT (dropT (spD f s n k) (spA f s k)) = _
    have h2 : (if (spE f s k).dirty = true then 1 else 0) = if k % 2 = 0 then 1 else 0 := by
      show (if (k % 2 == 0) = true then 1 else 0) = _
      simp
    rw [h2] at h
    by_cases h3 : k % 2 = 0
    · rw [if_pos h3] at h; omega
    · rw [if_neg h3] at h; omega
end
end Go.Proofs.Ythamnmadgfmbkaa
