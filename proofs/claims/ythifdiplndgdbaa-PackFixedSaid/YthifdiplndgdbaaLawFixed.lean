/- PackFixed answers true, for all numbers and bytes. Conditions: the slice's cells. -/
import Derived.Test.YthifdiplndgdbaaAwakePack
set_option linter.unusedVariables false
set_option linter.unusedSimpArgs false
namespace Go.Proofs.Ythifdiplndgdbaa
open Go.RowKit

theorem mask_low {x : Int} {v k : Nat} (HX : x = (v : Int)) (hv : v < 18446744073709551616) (hk : k < 8) :
    bits .and .u64 x (IntKind.u64.wrap (IntKind.u64.wrap (2 ^ (8 * k)) - 1)) = ((v % 256 ^ k : Nat) : Int) := by
  have e : (256 : Nat) ^ k = 2 ^ (8 * k) := by rw [Nat.pow_mul]
  have h1 : (1 : Nat) ≤ 2 ^ (8 * k) := Nat.one_le_pow _ _ (by omega)
  have h2 : (2 : Nat) ^ (8 * k) ≤ 2 ^ 56 := Nat.pow_le_pow_right (by omega) (by omega)
  have h3 : (2 : Nat) ^ 56 = 72057594037927936 := by decide
  have ep : (2 : Int) ^ (8 * k) = ((2 ^ (8 * k) : Nat) : Int) := by simp
  obtain ⟨p, hp⟩ : ∃ p : Nat, (2 : Nat) ^ (8 * k) = p := ⟨_, rfl⟩
  rw [hp] at ep h1 h2 e
  rw [h3] at h2
  have e1 : IntKind.u64.wrap (p : Int) = (p : Int) := wrap_lit (by omega) (by omega)
  rw [ep, e1, wrap_lit (by omega) (by omega), HX, show ((p : Int) - 1) = ((p - 1 : Nat) : Int) by omega, u64_and_nat _ _ hv (by omega), ← hp, Nat.and_two_pow_sub_one_eq_mod, hp, e]
set_option maxHeartbeats 4000000 in
theorem fixed_short (A : Option Addr) (n c k : Nat) (bs : List Nat) (x m : Int) (v : Nat) (w : World) (hl : ¬ 20 < n) (h0 : 0 ≤ x) (h1 : x ≤ 18446744073709551615) (HX : Hid (x = (v : Int))) (HK : Hid (lowM m 9 = (k : Int))) (hA : Bytes w w.heap.size A n bs) :
    Calls Try.prog 5 #[.int .u64 x, .int .i64 m, .slice A n c] w fun e w' => e = .returned (.bool true) ∧ Below w.heap.size w w' := by
  have HA := Lib.hid hA
  have hv : v < 18446744073709551616 := by have := HX.out; omega
  have hk8 : k ≤ 8 := by have := lowM_bd m 9 (by omega); rw [HK.out] at this; omega
  have HV := Lib.hid hv
  clear hA hv
  by_cases h8 : k < 8
  all_goals
    go_enter Try.func5, Try.ntmps5
    go_wp2_with fail
    refine (low_any m 9 (by omega) (by omega) _).mono ?_
    rw [HK.out]
    rintro e w' ⟨rfl, rfl⟩
    go_wp2_with fail
    refine (fix_any none 0 0 [] x k v _ h0 h1 HX (by omega) Bytes.none_).mono ?_
    rw [fixMany_yes (by omega), Int.toNat_natCast, List.nil_append]
    rintro e W1 ⟨A1, n1, c1, rfl, ho1, hb1⟩
    obtain rfl : k = n1 := by rw [← ho1.len, Pk.fix_len]
    obtain ⟨A2, c2, W2, hr2, ho2, hb2⟩ := own_append (c' := c1) (Below.refl W1.heap.size W1) Own.none_ ho1.bytes (by omega)
    rw [Nat.zero_add] at hr2 ho2
    rw [List.nil_append] at ho2
    obtain ⟨A3, c3, W3, hr3, ho3, hb3⟩ := own_append (w := W1) (c' := c) hb2 ho2 (HA.out.since (below_chain hb1 hb2)) (by omega)
    have R2 := Lib.hid hr2
    have R3 := Lib.hid hr3
    have HO1 := Lib.hid (ho1.since hb3)
    have S3 := Lib.hid (below_chain hb1 hb3)
    have HO3 := Lib.hid ho3
    obtain ⟨q, HQ⟩ : ∃ q : Int, Hid (q = ((v % 256 ^ k : Nat) : Int)) := ⟨_, rfl⟩
    clear hr2 hr3 ho1 ho2 ho3 hb1 hb2 hb3
  all_goals
    first
      | (have hm := mask_low HX.out HV.out h8
         rw [← HQ.out] at hm
         have HM := Lib.hid hm
         clear hm
         go_wp2_with (first | (simp only [HM.out]) | (at_builtin; first
           | (refine wpList_append_run rfl (.const (.slice none 0 0)) (.tmp 34) 22 rfl rfl rfl R2.out ?_)
           | (refine wpList_append_run rfl (.tmp 35) (.tmp 36) 22 rfl rfl rfl R3.out ?_))))
      | (have hxq : q = x := by
           rw [HQ.out, HX.out, Nat.mod_eq_of_lt (Nat.lt_of_lt_of_le HV.out (Nat.le_trans (by decide) (Nat.pow_le_pow_right (by omega) (show 8 ≤ k by omega))))]
         obtain rfl : q = x := hxq
         go_wp2_with (at_builtin; first
           | (refine wpList_append_run rfl (.const (.slice none 0 0)) (.tmp 34) 22 rfl rfl rfl R2.out ?_)
           | (refine wpList_append_run rfl (.tmp 35) (.tmp 36) 22 rfl rfl rfl R3.out ?_)))
  all_goals
    refine (unfix_any A3 (k + n) c3 k _ _ (by omega) HO3.out.cap HO3.out.bytes).mono ?_
    rw [unfixO_yes (by omega) (by omega), List.take_left' (Pk.fix_len v k), List.drop_left' (Pk.fix_len v k), Pk.unfix_fix]
    rintro e W4 ⟨y4, A4, n4, c4, rfl, HY4, hy0, hy1, hn4, HO4, HB4⟩
    obtain rfl : n = n4 := by rw [← HO4.out.len, HA.out.len]
    have S4 := Lib.hid (below_chain S3.out HB4.out)
    have HO1' := Lib.hid (HO1.out.since HB4.out)
    have HYQ : Hid (y4 = q) := by show _ = _; rw [HY4.out, HQ.out]
    obtain rfl : y4 = q := HYQ.out
    clear HYQ HO1 HO3 HB4 hy0 hy1
    go_wp2_with fail
    refine (unfix_any A1 k c1 (k + 1) _ _ (by omega) HO1'.out.cap HO1'.out.bytes).mono ?_
    rw [unfixO_no (by omega)]
    rintro e W5 ⟨rfl, HB5⟩
    have S5 := Lib.hid (below_chain S4.out HB5.out)
    go_wp2_with fail
    refine (same_since _ _ n _ _ bs _ (by omega) (HO4.out.since HB5.out).bytes (HA.out.since S5.out)).mono ?_
    rintro e W6 ⟨rfl, hb6⟩
    have S6 := Lib.hid (below_chain S5.out hb6)
    clear hb6
    go_wp2_with fail
    refine (awake_any _).mono ?_
    rintro e W7 ⟨rfl, hb7⟩
    have S7 := below_chain S6.out hb7
    go_wp2_with fail
    go_ret
    exact ⟨rfl, S7⟩
set_option maxHeartbeats 1000000 in
theorem fixed_long (A : Option Addr) (n c : Nat) (x m : Int) (w : World) (hl : 20 < n) :
    Calls Try.prog 5 #[.int .u64 x, .int .i64 m, .slice A n c] w fun e w' => e = .returned (.bool true) ∧ Below w.heap.size w w' := by
  go_enter Try.func5, Try.ntmps5
  go_wp2_with fail
  refine (awake_any _).mono ?_
  rintro e W7 ⟨rfl, hb7⟩
  go_wp2_with fail
  go_ret
  exact ⟨rfl, hb7⟩
theorem fixed_law (x m : Int) (A : Option Addr) (n c : Nat) (bs : List Nat) (h0 : 0 ≤ x) (h1 : x ≤ 18446744073709551615) (w : World) (hA : Bytes w w.heap.size A n bs) :
    Calls Try.prog 5 #[.int .u64 x, .int .i64 m, .slice A n c] w fun e w' => e = .returned (.bool true) ∧ Below w.heap.size w w' := by
  by_cases hl : 20 < n
  · exact fixed_long A n c x m w hl
  · obtain ⟨v, hv⟩ := Int.eq_ofNat_of_zero_le h0
    obtain ⟨k, hk⟩ := Int.eq_ofNat_of_zero_le (lowM_bd m 9 (by omega)).1
    exact fixed_short A n c k bs x m v w hl h0 h1 hv hk hA
end Go.Proofs.Ythifdiplndgdbaa
