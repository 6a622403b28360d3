/- PackOrder answers true, for all numbers. No conditions. -/
import Derived.Test.YthifdiplndgdbaaAwakePack
set_option linter.unusedVariables false
set_option linter.unusedSimpArgs false
namespace Go.Proofs.Ythifdiplndgdbaa
open Go.RowKit

set_option maxHeartbeats 8000000 in
theorem order_any (x x2 m : Int) (v v2 k : Nat) (w : World) (h0 : 0 ≤ x) (h1 : x ≤ 18446744073709551615) (HX : Hid (x = (v : Int))) (h02 : 0 ≤ x2) (h12 : x2 ≤ 18446744073709551615) (HX2 : Hid (x2 = (v2 : Int))) (HK : Hid (lowM m 64 = (k : Int))) :
    Calls Try.prog 7 #[.int .u64 x, .int .u64 x2, .int .i64 m] w fun e w' => e = .returned (.bool true) ∧ Below w.heap.size w w' := by
  have HV : Hid (v < 256 ^ 8) := by
    have := HX.out
    have e : (256 : Nat) ^ 8 = 18446744073709551616 := by decide
    show _ < _; omega
  have HV2 : Hid (v2 < 256 ^ 8) := by
    have := HX2.out
    have e : (256 : Nat) ^ 8 = 18446744073709551616 := by decide
    show _ < _; omega
  have hk : k ≤ 63 := by have := lowM_bd m 64 (by omega); rw [HK.out] at this; omega
  go_enter Try.func7, Try.ntmps7
  go_wp2_with fail
  refine (fix_any none 0 0 [] x 8 v _ h0 h1 HX (by omega) Bytes.none_).mono ?_
  rw [fixMany_yes (by omega), List.nil_append]
  rintro e W1 ⟨A1, n1, c1, rfl, ho1, hb1⟩
  obtain rfl : 8 = n1 := by rw [← ho1.len, Pk.fix_len]; rfl
  go_wp2_with fail
  refine (fix_any none 0 0 [] x2 8 v2 _ h02 h12 HX2 (by omega) Bytes.none_).mono ?_
  rw [fixMany_yes (by omega), List.nil_append]
  rintro e W2 ⟨A2, n2, c2, rfl, ho2, hb2⟩
  obtain rfl : 8 = n2 := by rw [← ho2.len, Pk.fix_len]; rfl
  have S2 := Lib.hid (below_chain hb1 hb2)
  have HB1 := Lib.hid (ho1.since hb2).bytes
  have HB2 := Lib.hid ho2.bytes
  obtain ⟨us, HUS⟩ : ∃ us : List Nat, Hid (us = Pk.fix v (8 : Int).toNat) := ⟨_, rfl⟩
  obtain ⟨vs, HVS⟩ : ∃ vs : List Nat, Hid (vs = Pk.fix v2 (8 : Int).toNat) := ⟨_, rfl⟩
  rw [← HUS.out] at HB1
  rw [← HVS.out] at HB2
  have HORD : Hid (∀ j, j < 8 → (∀ i, i < j → us.getD i 0 = vs.getD i 0) → (us.getD j 0 ≠ vs.getD j 0 ∨ j + 1 = 8) → (us.getD j 0 < vs.getD j 0 ↔ v < v2)) := fun j hj he hn => by
    rw [HUS.out, HVS.out] at he hn ⊢
    exact Pk.fix_order HV.out HV2.out hj he hn
  clear ho1 hb1 ho2 hb2
  go_wp2_with fail
  go_loopw [9] (fun t9 wr => ∃ j q : Nat, t9 = .int .i64 j ∧ j ≤ 7 ∧ wr = W2.drewN q ∧ Hid (∀ i, i < j → us.getD i 0 = vs.getD i 0)) (fun t9 _ => 7 - (intOf t9).toNat)
  case atStart => exact ⟨0, 0, rfl, by omega, rfl, fun i hi => absurd hi (Nat.not_lt_zero i)⟩
  case round =>
    obtain ⟨j, q, rfl, hj, rfl, HE⟩ := hrel
    obtain ⟨a1, ha1, g1, d1⟩ := HB1.out.at_ (show j < 8 by omega)
    obtain ⟨a2, ha2, g2, d2⟩ := HB2.out.at_ (show j < 8 by omega)
    obtain ⟨z1, Z1⟩ : ∃ z : Int, Hid (((us.getD j 0 : Nat) : Int) = z) := ⟨_, rfl⟩
    obtain ⟨z2, Z2⟩ : ∃ z : Int, Hid (((vs.getD j 0 : Nat) : Int) = z) := ⟨_, rfl⟩
    rw [Z1.out] at d1
    rw [Z2.out] at d2
    subst ha1 ha2
    have i0 : (0 : Int) ≤ (j : Int) := by omega
    have i1 : (j : Int) < 8 := by omega
    by_cases hgo : j < 7 ∧ z1 = z2
    · obtain ⟨hj7, hz⟩ := hgo
      subst hz
      have HE2 : Hid (∀ i, i < j + 1 → us.getD i 0 = vs.getD i 0) := fun i hi => by
        rcases (by omega : i < j ∨ i = j) with h | rfl
        · exact HE.out i h
        · have h1 := Z1.out; have h2 := Z2.out; omega
      clear g1 g2
      have b1 : decide ((j : Int) < 7) = true := decide_eq_true (by omega)
      have b2 : decide (j < 7) = true := decide_eq_true (by omega)
      go_wp2
      go_quiet (fail)
      go_wp2
      go_roundw
      case rel => exact ⟨j + 1, q + nq, by go_num, by omega, rfl, HE2⟩
      case measure => simp [intOf]; omega
    · have hord : z1 < z2 ↔ x < x2 := by
        have h := HORD.out j (by omega) HE.out (by
          have h1 := Z1.out; have h2 := Z2.out
          rcases (by omega : j + 1 = 8 ∨ j < 7) with h | h
          · exact Or.inr h
          · exact Or.inl fun e => hgo ⟨h, by omega⟩)
        have h1 := Z1.out; have h2 := Z2.out; have h3 := HX.out; have h4 := HX2.out
        omega
      obtain ⟨low, HLOW⟩ : ∃ p : Int, Hid (p = ((2 ^ k : Nat) : Int)) := ⟨_, rfl⟩
      obtain ⟨high, HHIGH⟩ : ∃ p : Int, Hid (p = ((2 ^ k - 1 : Nat) : Int)) := ⟨_, rfl⟩
      have hp1 : (1 : Nat) ≤ 2 ^ k := Nat.one_le_pow _ _ (by omega)
      have hp2 : (2 : Nat) ^ k ≤ 2 ^ 63 := Nat.pow_le_pow_right (by omega) hk
      have hp3 : (2 : Nat) ^ 63 = 9223372036854775808 := by decide
      have ep : (2 : Int) ^ k = ((2 ^ k : Nat) : Int) := by simp
      have HW1 : Hid (IntKind.u64.wrap (2 ^ k) = low) := by
        show _ = _
        rw [ep, HLOW.out]; exact wrap_lit (by omega) (by omega)
      have HW2 : Hid (IntKind.u64.wrap (low - 1) = high) := by
        show _ = _
        rw [HLOW.out, HHIGH.out, wrap_lit (by omega) (by omega)]; omega
      have hl0 : 0 ≤ low := by rw [HLOW.out]; exact Int.natCast_nonneg _
      have hl1 : low ≤ 18446744073709551615 := by rw [HLOW.out]; omega
      have hh0 : 0 ≤ high := by rw [HHIGH.out]; exact Int.natCast_nonneg _
      have hh1 : high ≤ 18446744073709551615 := by rw [HHIGH.out]; omega
      clear hp1 hp2 hp3 ep g1 g2
      have hboth : (z1 < z2 ∧ x < x2) ∨ (¬ z1 < z2 ∧ ¬ x < x2) := by
        by_cases h : z1 < z2
        · exact Or.inl ⟨h, hord.1 h⟩
        · exact Or.inr ⟨h, fun hh => h (hord.2 hh)⟩
      clear hord
      have hexit : (j < 7 ∧ ¬ z1 = z2) ∨ j = 7 := by
        rcases (by omega : j = 7 ∨ j < 7) with h | h
        · exact Or.inr h
        · exact Or.inl ⟨h, fun e => hgo ⟨h, e⟩⟩
      clear hgo
      have S3 : Hid (∀ N, Below w.heap.size w (W2.drewN N)) := fun N => below_drewN S2.out N
      rcases hexit with ⟨hj7, hz⟩ | hj7
      case' inl =>
        have b1 : decide ((j : Int) < 7) = true := decide_eq_true (by omega)
        have b2 : decide (j < 7) = true := decide_eq_true (by omega)
        have b3 : (z1 == z2) = false := by simpa using hz
        clear hz
      case' inr =>
        have b1 : decide ((j : Int) < 7) = false := decide_eq_false (by omega)
        have b2 : decide (j < 7) = false := decide_eq_false (by omega)
        clear hj7
      all_goals
        rcases hboth with ⟨t1, t2⟩ | ⟨t1, t2⟩
      all_goals
        first
          | (have t3 : decide (z1 < z2) = true := decide_eq_true t1
             have t4 : decide (x < x2) = true := decide_eq_true t2)
          | (have t3 : decide (z1 < z2) = false := decide_eq_false t1
             have t4 : decide (x < x2) = false := decide_eq_false t2)
        clear t1 t2
        go_wp2
        go_quiet (fail)
        go_wp2
        go_quiet (fail)
        go_wp2_with fail
        refine (low_any m 64 (by omega) (by omega) _).mono ?_
        rw [HK.out]
        rintro e w' ⟨rfl, rfl⟩
        clear i0 i1 d1 d2
        go_wp2_with (first | (simp only [HW1.out]) | (simp only [HW2.out]))
        refine (put_any none 0 0 [] low (2 ^ k) _ hl0 hl1 HLOW (by omega) Bytes.none_).mono ?_
        rw [List.nil_append]
        rintro e W5 ⟨A5, n5, c5, rfl, ho5, hb5⟩
        have HL5 : Hid (n5 = k / 7 + 1) := by show _ = _; rw [← ho5.len, Pk.put_two_pow]
        have S5 := Lib.hid (below_chain (S3.out _) hb5)
        clear ho5 hb5
        go_wp2_with (first | (simp only [HW1.out]) | (simp only [HW2.out]))
        refine (put_any none 0 0 [] high (2 ^ k - 1) _ hh0 hh1 HHIGH (by omega) Bytes.none_).mono ?_
        rw [List.nil_append]
        rintro e W6 ⟨A6, n6, c6, rfl, ho6, hb6⟩
        have HL6 : Hid (n6 = (max k 1 + 6) / 7) := by show _ = _; rw [← ho6.len, Pk.put_below_pow]
        have S6 := Lib.hid (below_chain S5.out hb6)
        clear ho6 hb6
        have e5 : (n5 : Int) = (k : Int) / 7 + 1 := by have := HL5.out; omega
        by_cases hk0 : k = 0
      all_goals
        first
          | (have e6 : (n6 : Int) = 1 := by have := HL6.out; omega)
          | (have e6 : (n6 : Int) = ((k : Int) + 6) / 7 := by have := HL6.out; omega)
        go_wp2_with fail
        refine (awake_any _).mono ?_
        rintro e W7 ⟨rfl, hb7⟩
        have S7 := below_chain S6.out hb7
        go_wp2_with fail
        go_ret
        exact ⟨rfl, S7⟩
theorem order_law (x x2 m : Int) (h0 : 0 ≤ x) (h1 : x ≤ 18446744073709551615) (h02 : 0 ≤ x2) (h12 : x2 ≤ 18446744073709551615) (w : World) :
    Calls Try.prog 7 #[.int .u64 x, .int .u64 x2, .int .i64 m] w fun e w' => e = .returned (.bool true) ∧ Below w.heap.size w w' := by
  obtain ⟨v, hv⟩ := Int.eq_ofNat_of_zero_le h0
  obtain ⟨v2, hv2⟩ := Int.eq_ofNat_of_zero_le h02
  obtain ⟨k, hk⟩ := Int.eq_ofNat_of_zero_le (lowM_bd m 64 (by omega)).1
  exact order_any x x2 m v v2 k w h0 h1 hv h02 h12 hv2 hk
end Go.Proofs.Ythifdiplndgdbaa
