/- Plain facts on the order of numbers' texts to base 16: longer ones are of greater numbers, of one length they stand in the order of their numbers. No program stands in it. -/
import Derived.Test.YtbeliifgflgboaaDoorNumPlain
import Derived.Lib.Strings
set_option linter.unusedVariables false
set_option linter.unusedSimpArgs false
namespace Go.Proofs.YtbeliifgflgboaaDoor
open Go.Lib

theorem hexD_acc : ∀ (f u : Nat) (acc : List UInt8), hexD f u acc = hexD f u [] ++ acc
  | 0, u, acc => by simp [hexD]
  | f + 1, u, acc => by
    rw [hexD, hexD]
    split
    · simp
    · rw [hexD_acc f (u / 16) (dig (u % 16) :: acc), hexD_acc f (u / 16) [dig (u % 16)]]
      simp
theorem hexD_fuel : ∀ (f g u : Nat), u < 16 ^ (f + 1) → u < 16 ^ (g + 1) → hexD f u [] = hexD g u []
  | 0, 0, u, _, _ => rfl
  | 0, g + 1, u, h, _ => by
    simp at h
    rw [hexD, hexD, if_pos h]
  | f + 1, 0, u, _, h => by
    simp at h
    rw [hexD, hexD, if_pos h]
  | f + 1, g + 1, u, h1, h2 => by
    rw [hexD, hexD]
    split
    · rfl
    · rw [Nat.pow_succ] at h1 h2
      rw [hexD_acc f, hexD_acc g, hexD_fuel f g (u / 16) (by omega) (by omega)]
theorem hexL_small (n : Nat) (h : n < 16) : hexL n = [dig n] := by
  unfold hexL
  rw [hexD, if_pos h]
theorem hexL_snoc (n : Nat) (h : 16 ≤ n) (h2 : n < 18446744073709551616) : hexL n = hexL (n / 16) ++ [dig (n % 16)] := by
  unfold hexL
  rw [hexD, if_neg (by omega), hexD_acc, hexD_fuel 14 15 (n / 16) (by simp; omega) (by simp; omega)]
theorem hexL_pos (n : Nat) : 1 ≤ (hexL n).length := by
  have : ∀ f u acc, 1 ≤ (hexD f u acc).length := by
    intro f
    induction f with
    | zero => intro u acc; simp [hexD]
    | succ g ih =>
      intro u acc
      rw [hexD]
      split
      · simp
      · exact ih _ _
  exact this 15 n []
theorem hexL_inj {a b : Nat} (ha : a < 18446744073709551616) (hb : b < 18446744073709551616) (h : hexL a = hexL b) : a = b := by
  have h1 := parse16_hexL a ha
  rw [h, parse16_hexL b hb] at h1
  injection h1 with h1
  exact h1.symm
theorem hexL_mono : ∀ (k a b : Nat), b ≤ k → a ≤ b → b < 18446744073709551616 → (hexL a).length ≤ (hexL b).length
  | 0, a, b, hk, h, _ => by
    obtain rfl : a = b := by omega
    exact Nat.le_refl _
  | k + 1, a, b, hk, h, hb => by
    by_cases h1 : a < 16
    · rw [hexL_small a h1]
      exact hexL_pos b
    · rw [hexL_snoc a (by omega) (by omega), hexL_snoc b (by omega) hb, List.length_append, List.length_append]
      have := hexL_mono k (a / 16) (b / 16) (by omega) (by omega) (by omega)
      simpa using this

theorem less_nil (l : List UInt8) : Op.bytesLess l [] = false := by cases l <;> rfl
theorem less_same : ∀ l : List UInt8, Op.bytesLess l l = false
  | [] => rfl
  | x :: l => by
    have := less_same l
    simp [Op.bytesLess, this]
theorem less_app : ∀ (p q s t : List UInt8), p.length = q.length → Op.bytesLess p q = true → Op.bytesLess (p ++ s) (q ++ t) = true
  | [], [], s, t, _, h => by simp [Op.bytesLess] at h
  | [], _ :: _, s, t, hl, _ => by simp at hl
  | _ :: _, [], s, t, hl, _ => by simp at hl
  | x :: p, y :: q, s, t, hl, h => by
    have ih := less_app p q s t (by simpa using hl)
    simp only [Op.bytesLess, List.cons_append] at h ⊢
    simp only [Bool.or_eq_true, Bool.and_eq_true] at h ⊢
    rcases h with h | ⟨h1, h2⟩
    · exact Or.inl h
    · exact Or.inr ⟨h1, ih h2⟩
theorem less_asym : ∀ p q : List UInt8, Op.bytesLess p q = true → Op.bytesLess q p = false
  | [], [], h => by simp [Op.bytesLess] at h
  | [], _ :: _, _ => by simp [Op.bytesLess]
  | _ :: _, [], h => by simp [Op.bytesLess] at h
  | x :: p, y :: q, h => by
    have ih := less_asym p q
    simp only [Op.bytesLess, Bool.or_eq_true, Bool.and_eq_true, decide_eq_true_eq, beq_iff_eq] at h
    rw [Bool.eq_false_iff]
    simp only [Op.bytesLess, ne_eq, Bool.or_eq_true, Bool.and_eq_true, decide_eq_true_eq, beq_iff_eq]
    rintro (k | ⟨rfl, k⟩)
    · rcases h with h | ⟨rfl, h⟩
      · exact absurd k (UInt8.lt_asymm h)
      · exact absurd k (UInt8.lt_irrefl _)
    · rcases h with h | ⟨_, h⟩
      · exact absurd h (UInt8.lt_irrefl _)
      · rw [ih h] at k
        exact absurd k (by simp)
theorem less_last (p : List UInt8) (x y : UInt8) (h : x < y) : Op.bytesLess (p ++ [x]) (p ++ [y]) = true := by
  induction p with
  | nil => simp [Op.bytesLess, h]
  | cons z p ih => simp [Op.bytesLess, ih]
theorem dig_lt_fin : ∀ x y : Fin 16, x.val < y.val → dig x.val < dig y.val := by decide +kernel
theorem dig_lt (x y : Nat) (h : x < y) (hy : y < 16) : dig x < dig y := dig_lt_fin ⟨x, by omega⟩ ⟨y, hy⟩ h
theorem hexL_less : ∀ (k a b : Nat), b ≤ k → a < b → b < 18446744073709551616 → (hexL a).length = (hexL b).length → Op.bytesLess (hexL a) (hexL b) = true
  | 0, a, b, hk, h, _, _ => by omega
  | k + 1, a, b, hk, h, hb, hl => by
    by_cases h1 : b < 16
    · rw [hexL_small a (by omega), hexL_small b h1]
      exact less_last [] _ _ (dig_lt a b h h1)
    · by_cases h2 : a < 16
      · rw [hexL_small a h2, hexL_snoc b (by omega) hb, List.length_append] at hl
        have := hexL_pos (b / 16)
        simp only [List.length_cons, List.length_nil] at hl
        omega
      · rw [hexL_snoc a (by omega) (by omega), hexL_snoc b (by omega) hb] at hl ⊢
        rw [List.length_append, List.length_append] at hl
        by_cases h3 : a / 16 < b / 16
        · exact less_app _ _ _ _ (by simpa using hl) (hexL_less k (a / 16) (b / 16) (by omega) h3 (by omega) (by simpa using hl))
        · have h4 : a / 16 = b / 16 := by omega
          rw [h4]
          exact less_last _ _ _ (dig_lt (a % 16) (b % 16) (by omega) (by omega))
theorem hexF_less {a b : Nat} (h : a < b) (hb : b < 18446744073709551616) (hl : (hexF a).length = (hexF b).length) : Op.bytesLess (hexF a) (hexF b) = true := by
  unfold hexF at hl ⊢
  have h := hexL_less b a b (Nat.le_refl _) h hb (by simpa using hl)
  simp [Op.bytesLess, h]
theorem hexF_mono {a b : Nat} (h : a ≤ b) (hb : b < 18446744073709551616) : (hexF a).length ≤ (hexF b).length := by
  have := hexL_mono b a b (Nat.le_refl _) h hb
  simp [hexF]
  exact this
theorem hexF_inj {a b : Nat} (ha : a < 18446744073709551616) (hb : b < 18446744073709551616) (h : hexF a = hexF b) : a = b := by
  unfold hexF at h
  exact hexL_inj ha hb (by simpa using h)
/-- a digit more -/
theorem hexL_more (a : Nat) (h0 : 0 < a) (h : a < 1152921504606846976) : hexL (16 * a) = hexL a ++ [48] := by
  rw [hexL_snoc (16 * a) (by omega) (by omega), show 16 * a / 16 = a by omega, show 16 * a % 16 = 0 by omega]
  rfl
theorem parse_more (a : Nat) (h : a < 18446744073709551616) : parse16 0 (hexL a ++ [48]) = if 1152921504606846976 ≤ a then .range else .ok (a * 16) := by
  have e : hexL a ++ [48] = hexD 15 a [48] := by unfold hexL; rw [← hexD_acc]
  rw [e, parse16_hexD 15 a [48] 0 h h, parse16, show hexV 48 = some 0 from by decide]
  simp only [Nat.add_zero]
  rfl
end Go.Proofs.YtbeliifgflgboaaDoor
