/- math/bits.LeadingZeros64, math/bits.Div64 as the library has them: 128 bits by 64. Conditions: the higher half is below the divisor. -/
import Derived.Test.YtgenkmihbnkakaaDoorDivMath
import Derived.Test.YtgenkmihbnkakaaDoorShelf
import Derived.Test.YtgenkmihbnkakaaDoorBase
import Derived.Test.YtgenkmihbnkakaaDoorFacts
import Derived.Laws.Bits64b
import Derived.BigQuiet
set_option linter.unusedVariables false
set_option linter.unusedSimpArgs false
set_option maxRecDepth 20000
namespace Go.Proofs.YtgenkmihbnkakaaDoor
open Go Go.RowKit

theorem bitlen_le (y : Nat) (h : y < 18446744073709551616) : Lib.bitLen y ≤ 64 := Lib.bitLen_le y 64 (by omega) (by omega)
set_option maxRecDepth 100000 in
theorem lead64_any (y : Nat) (w : World) (h : y < 18446744073709551616) : Calls Tryd.prog 33 #[.int .u64 y] w fun e w' => e = .returned (.int .i64 ((64 - Lib.bitLen y : Nat) : Int)) ∧ w' = w := by
  have h1 := bitlen_le y h
  obtain ⟨z, hz⟩ : ∃ z, Lib.bitLen y = z := ⟨_, rfl⟩
  have HL := Lib.hid (Tryd.bits_Len64 (y : Int) w (by omega) (by omega))
  rw [show ((y : Int)).toNat = y by omega, hz] at HL
  rw [hz] at h1 ⊢
  clear hz
  have e : IntKind.i64.wrap (64 - (z : Int)) = ((64 - z : Nat) : Int) := by rw [IntKind.wrap_i64]; omega
  go_enter Tryd.func33, Tryd.ntmps33
  go_wp2_with fail
  refine HL.out.mono ?_
  rintro e2 w' ⟨rfl, rfl⟩
  go_wp2_with fail
  go_ret
  refine ⟨?_, rfl⟩
  rw [show ((64 - z : Nat) : Int) = 64 - (z : Int) by omega]
  rfl
theorem bitlen_two : ∀ (f x : Nat), x < 2 ^ f → x < 2 ^ Lib.bitLenAux f x ∧ (x ≠ 0 → 2 ^ Lib.bitLenAux f x ≤ 2 * x)
  | 0, x, h => ⟨h, fun h0 => absurd (show x = 0 by simp at h; exact h) h0⟩
  | f + 1, x, h => by
    unfold Lib.bitLenAux
    by_cases h0 : x = 0
    · rw [if_pos h0, h0]
      exact ⟨by decide, fun h1 => absurd rfl h1⟩
    · rw [if_neg h0, Nat.add_comm 1, Nat.pow_succ]
      have ih := bitlen_two f (x / 2) (by rw [Nat.pow_succ] at h; omega)
      refine ⟨by omega, fun _ => ?_⟩
      by_cases h1 : x / 2 = 0
      · have e : 2 ^ Lib.bitLenAux f (x / 2) = 1 := by
          rw [h1]
          cases f <;> rfl
        omega
      · have := ih.2 h1
        omega
/-- How far a divisor is moved up: then it is 2^63 at least. -/
theorem norm_two {y : Nat} (h0 : y ≠ 0) (h : y < 18446744073709551616) : ∃ k, 64 - Lib.bitLen y = k ∧ k ≤ 63 ∧ 9223372036854775808 ≤ y * 2 ^ k ∧ y * 2 ^ k < 18446744073709551616 := by
  have hb := bitlen_two 64 y h
  have hl := bitlen_le y h
  obtain ⟨z, hz⟩ : ∃ z, Lib.bitLen y = z := ⟨_, rfl⟩
  have h1 : y < 2 ^ z := by rw [← hz]; exact hb.1
  have h2 : 2 ^ z ≤ 2 * y := by rw [← hz]; exact hb.2 h0
  rw [hz] at hl
  refine ⟨64 - Lib.bitLen y, rfl, ?_, ?_, ?_⟩
  · rw [hz]
    rcases Nat.eq_zero_or_pos z with e | e
    · rw [e] at h1; simp at h1; exact absurd h1 h0
    · omega
  · rw [hz]
    have e : 2 ^ z * 2 ^ (64 - z) = 18446744073709551616 := by rw [← Nat.pow_add, show z + (64 - z) = 64 by omega]
    have h3 : 2 ^ z * 2 ^ (64 - z) ≤ 2 * y * 2 ^ (64 - z) := Nat.mul_le_mul_right _ h2
    rw [e, Nat.mul_assoc] at h3
    omega
  · rw [hz]
    have e : 2 ^ z * 2 ^ (64 - z) = 18446744073709551616 := by rw [← Nat.pow_add, show z + (64 - z) = 64 by omega]
    have h3 : y * 2 ^ (64 - z) < 2 ^ z * 2 ^ (64 - z) := (Nat.mul_lt_mul_right (Nat.pow_pos (by decide))).2 h1
    rw [e] at h3
    exact h3
/-! generated -/
theorem wrap_nat (n : Nat) (h : n < 18446744073709551616) : IntKind.u64.wrap (n : Int) = (n : Int) := by rw [IntKind.wrap_u64]; omega
theorem wrap_mod (n : Nat) : IntKind.u64.wrap (n : Int) = ((n % 18446744073709551616 : Nat) : Int) := by rw [IntKind.wrap_u64]; omega
theorem mask_nat (n : Nat) (h : n < 18446744073709551616) : bits .and .u64 (n : Int) 4294967295 = ((n % 4294967296 : Nat) : Int) := by
  have h2 := bits_and_u64_nat n 4294967295 h (by omega)
  have e : n &&& 4294967295 = n % 4294967296 := Nat.and_two_pow_sub_one_eq_mod n 32
  rw [e] at h2
  exact h2
theorem pow_cast (k : Nat) : (2 : Int) ^ k = ((2 ^ k : Nat) : Int) := by simp
/-- One digit of the quotient, as the walk has it: q is tried, r is what is left of the higher part. -/
structure Dig (u d y1 y0 Q : Int) : Prop where
  more : ∀ q r : Int, 0 ≤ q → 0 ≤ r → q * y1 + r = u → (4294967296 ≤ q ∨ 4294967296 * r + d < q * y0) → Q + 1 ≤ q
  done : ∀ q r : Int, 0 ≤ q → 0 ≤ r → q * y1 + r = u → Q ≤ q → 4294967296 * r + d ≥ q * y0 → q = Q
  brk : ∀ q r : Int, 0 ≤ q → 4294967296 ≤ r → q * y1 + r = u → Q ≤ q → q ≤ 4294967296 → q = Q
  est0 : 0 ≤ u / y1
  est1 : Q ≤ u / y1
  est2 : u / y1 ≤ 4294967297
  est3 : 0 ≤ (u / y1) * y1
  est4 : (u / y1) * y1 ≤ u
  est5 : u - (u / y1) * y1 < y1
  lo : 0 ≤ Q
  hi : Q ≤ 4294967295
theorem dig_of {u d y1 y0 : Nat} (h1 : 2147483648 ≤ y1) (h0 : y0 < 4294967296) (hu : u < y1 * 4294967296 + y0) (hd : d < 4294967296) :
    Dig u d y1 y0 ((DivM.dq u d (y1 * 4294967296 + y0) : Nat) : Int) := by
  obtain ⟨e1, e2, e3⟩ := DivM.dig_est h1 h0 hu hd
  have hlt := DivM.dq_lt hu hd
  have hc : ((u : Int) / (y1 : Int)) = ((u / y1 : Nat) : Int) := rfl
  have hm : u % y1 < y1 := Nat.mod_lt _ (by omega)
  have hp : ((u / y1 : Nat) : Int) * (y1 : Int) = ((u / y1 * y1 : Nat) : Int) := (Int.natCast_mul _ _).symm
  refine ⟨fun q r hq hr h ht => ?_, fun q r hq hr h hle ht => ?_, fun q r hq hr h hle hq2 => ?_, ?_, ?_, ?_, ?_, ?_, ?_, ?_, ?_⟩
  · obtain ⟨q, rfl⟩ := Int.eq_ofNat_of_zero_le hq
    obtain ⟨r, rfl⟩ := Int.eq_ofNat_of_zero_le hr
    have h2 : q * y1 + r = u := by exact_mod_cast h
    have h3 : 4294967296 ≤ q ∨ 4294967296 * r + d < q * y0 := by
      rcases ht with ht | ht
      · left; omega
      · right; rw [← Int.natCast_mul] at ht; omega
    have := DivM.dig_more h2 hu hd h3
    exact_mod_cast this
  · obtain ⟨q, rfl⟩ := Int.eq_ofNat_of_zero_le hq
    obtain ⟨r, rfl⟩ := Int.eq_ofNat_of_zero_le hr
    have h2 : q * y1 + r = u := by exact_mod_cast h
    have h3 : ¬ 4294967296 * r + d < q * y0 := by
      intro h4
      have h5 : ((4294967296 * r + d : Nat) : Int) < ((q * y0 : Nat) : Int) := by exact_mod_cast h4
      rw [Int.natCast_add, Int.natCast_mul, Int.natCast_mul] at h5
      exact absurd ht (by show ¬ _ ≤ _; exact Int.not_le.2 h5)
    have h6 := DivM.dig_done (d := d) h2 (by omega) h3
    have h7 : DivM.dq u d (y1 * 4294967296 + y0) ≤ q := by exact_mod_cast hle
    have : q = DivM.dq u d (y1 * 4294967296 + y0) := Nat.le_antisymm h6 h7
    exact_mod_cast this
  · obtain ⟨q, rfl⟩ := Int.eq_ofNat_of_zero_le hq
    obtain ⟨r, rfl⟩ := Int.eq_ofNat_of_zero_le (Int.le_trans (by decide) hr)
    have h2 : q * y1 + r = u := by exact_mod_cast h
    have h6 := DivM.dig_break (d := d) h2 (by omega) (by omega) (by omega) h0
    have h7 : DivM.dq u d (y1 * 4294967296 + y0) ≤ q := by exact_mod_cast hle
    have : q = DivM.dq u d (y1 * 4294967296 + y0) := Nat.le_antisymm h6 h7
    exact_mod_cast this
  · rw [hc]; omega
  · rw [hc]; omega
  · rw [hc]; omega
  · rw [hc, hp]; omega
  · rw [hc, hp]; omega
  · rw [hc, hp]; omega
  · omega
  · omega
theorem ret_t {a b c : Int} (h : a = b) : ∃ r : Int, Ending.returned (.tuple #[.int .u64 a, .int .u64 c]) = .returned (.tuple #[.int .u64 b, .int .u64 r]) := ⟨c, by rw [h]⟩
set_option maxHeartbeats 4000000 in
set_option maxRecDepth 100000 in
theorem div64_zero (lo y : Nat) (hl : lo < 18446744073709551616) (hy : y < 18446744073709551616) (h0 : 0 < y) (w : World) :
    Calls Tryd.prog 19 #[.int .u64 0, .int .u64 lo, .int .u64 y] w fun e w' => (∃ r : Int, e = .returned (.tuple #[.int .u64 ((lo / y : Nat) : Int), .int .u64 r])) ∧ ∃ n, w' = w.drewN n := by
  have y0 : ¬ ((y : Int) = 0) := by omega
  have y1 : ¬ ((y : Int) ≤ 0) := by omega
  have hq : IntKind.u64.wrap ((lo : Int) / (y : Int)) = ((lo / y : Nat) : Int) := by
    have h2 : ((lo : Int) / (y : Int)) = ((lo / y : Nat) : Int) := rfl
    rw [h2]
    exact wrap_nat _ (Nat.lt_of_le_of_lt (Nat.div_le_self lo y) hl)
  go_enter Tryd.func19, Tryd.ntmps19
  go_wp2_with fail
  go_quiet (fail)
  go_wp2_with fail
  go_ret2
  first
  | exact ⟨ret_t hq, _, rfl⟩
  | exact ⟨ret_t rfl, _, rfl⟩
/-- What the walk of Div64 is told of its numbers. -/
structure DivNums (hi lo y : Nat) (k : Nat) (Y y1 y0 a b u l d1 d0 Q v Q0 : Int) : Prop where
  EY : IntKind.u64.wrap ((y : Int) * 2 ^ k) = Y
  EY1 : Y / 4294967296 = y1
  EY0 : bits .and .u64 Y 4294967295 = y0
  EA : IntKind.u64.wrap ((hi : Int) * 2 ^ k) = a
  EB : (lo : Int) / 2 ^ (64 - k) = b
  EU : bits .or .u64 a b = u
  EL : IntKind.u64.wrap ((lo : Int) * 2 ^ k) = l
  ED1 : l / 4294967296 = d1
  ED0 : bits .and .u64 l 4294967295 = d0
  EV : IntKind.u64.wrap (IntKind.u64.wrap (IntKind.u64.wrap (u * 4294967296) + d1) - IntKind.u64.wrap (Q * Y)) = v
  ER : Q * 4294967296 + Q0 = (((hi * 18446744073709551616 + lo) / y : Nat) : Int)
  D1 : Dig u d1 y1 y0 Q
  D2 : Dig v d0 y1 y0 Q0
  bY : 9223372036854775808 ≤ Y ∧ Y ≤ 18446744073709551615
  by1 : 2147483648 ≤ y1 ∧ y1 ≤ 4294967295
  by0 : 0 ≤ y0 ∧ y0 ≤ 4294967295
  ba : 0 ≤ a ∧ a ≤ 18446744073709551615
  bb : 0 ≤ b ∧ b ≤ 18446744073709551615
  bu : 0 ≤ u ∧ u ≤ 18446744073709551615
  bl : 0 ≤ l ∧ l ≤ 18446744073709551615
  bd1 : 0 ≤ d1 ∧ d1 ≤ 4294967295
  bd0 : 0 ≤ d0 ∧ d0 ≤ 4294967295
  bv : 0 ≤ v ∧ v ≤ 18446744073709551615
theorem div_nums (hi lo y k : Nat) (hh : hi < y) (hl : lo < 18446744073709551616) (k63 : k ≤ 63) (hY0 : 9223372036854775808 ≤ y * 2 ^ k) (hY1 : y * 2 ^ k < 18446744073709551616) :
    ∃ Y y1 y0 a b u l d1 d0 Q v Q0 : Int, DivNums hi lo y k Y y1 y0 a b u l d1 d0 Q v Q0 := by
  obtain ⟨T, hT⟩ : ∃ T, 2 ^ k = T := ⟨_, rfl⟩
  obtain ⟨T2, hT2⟩ : ∃ T, 2 ^ (64 - k) = T := ⟨_, rfl⟩
  have hTT : T * T2 = 18446744073709551616 := by rw [← hT, ← hT2, ← Nat.pow_add, show k + (64 - k) = 64 by omega]
  have T0 : 0 < T := by rw [← hT]; exact Nat.pow_pos (by decide)
  have T20 : 0 < T2 := by rw [← hT2]; exact Nat.pow_pos (by decide)
  rw [hT] at hY0 hY1
  obtain ⟨Y, hY⟩ : ∃ Y, y * T = Y := ⟨_, rfl⟩
  obtain ⟨A, hA⟩ : ∃ A, hi * T = A := ⟨_, rfl⟩
  obtain ⟨Bq, hB⟩ : ∃ A, lo / T2 = A := ⟨_, rfl⟩
  obtain ⟨L, hL⟩ : ∃ A, lo * T % 18446744073709551616 = A := ⟨_, rfl⟩
  have hu := DivM.u_lt (u := A + Bq) hTT T0 hh hl (by rw [hA, hB])
  have hq := DivM.quo_all (u := A + Bq) (l := L) (hi := hi) (lo := lo) (y := y) hTT T0 (by omega) (by rw [hA, hB]) hL.symm
  have hbT : Bq < T := by rw [← hB]; refine Nat.div_lt_of_lt_mul ?_; rw [Nat.mul_comm, hTT]; exact hl
  have hor : A ||| Bq = A + Bq := nat_join k A Bq (by rw [hT, ← hA]; exact Nat.mul_mod_left _ _) (by rw [hT]; exact hbT)
  have hL2 : L < 18446744073709551616 := by rw [← hL]; exact Nat.mod_lt _ (by decide)
  rw [hY] at hY0 hY1 hu hq
  obtain ⟨y1, hy1⟩ : ∃ A, Y / 4294967296 = A := ⟨_, rfl⟩
  obtain ⟨y0, hy0⟩ : ∃ A, Y % 4294967296 = A := ⟨_, rfl⟩
  have hsp : y1 * 4294967296 + y0 = Y := by rw [← hy1, ← hy0]; exact Nat.div_add_mod' _ _
  have by1 : 2147483648 ≤ y1 := by omega
  have by1' : y1 ≤ 4294967295 := by omega
  have by0 : y0 < 4294967296 := by omega
  obtain ⟨d1, hd1⟩ : ∃ A, L / 4294967296 = A := ⟨_, rfl⟩
  obtain ⟨d0, hd0⟩ : ∃ A, L % 4294967296 = A := ⟨_, rfl⟩
  have bd1 : d1 < 4294967296 := by omega
  have bd0 : d0 < 4294967296 := by omega
  rw [hd1, hd0] at hq
  have hre := DivM.rem_eq (A + Bq) d1 Y (by omega)
  have hv : ((A + Bq) * 4294967296 + d1) % Y < Y := Nat.mod_lt _ (by omega)
  obtain ⟨V, hV⟩ : ∃ V, ((A + Bq) * 4294967296 + d1) % Y = V := ⟨_, rfl⟩
  rw [hV] at hq hre hv
  obtain ⟨U, hU⟩ : ∃ U, A + Bq = U := ⟨_, rfl⟩
  rw [hU] at hu hq hor hre
  have dd1 := dig_of (u := U) (d := d1) by1 by0 (by rw [hsp]; exact hu) bd1
  have dd2 := dig_of (u := V) (d := d0) by1 by0 (by rw [hsp]; exact hv) bd0
  rw [hsp] at dd1 dd2
  have hqz : ((DivM.dq U d1 Y : Nat) : Int) * (Y : Int) = ((DivM.dq U d1 Y * Y : Nat) : Int) := (Int.natCast_mul _ _).symm
  have bU : U < 18446744073709551616 := Nat.lt_trans hu hY1
  refine ⟨(Y : Int), (y1 : Int), (y0 : Int), (A : Int), (Bq : Int), (U : Int), (L : Int), (d1 : Int), (d0 : Int), ((DivM.dq U d1 Y : Nat) : Int), (V : Int), ((DivM.dq V d0 Y : Nat) : Int),
    ⟨?_, ?_, ?_, ?_, ?_, ?_, ?_, ?_, ?_, ?_, ?_, dd1, dd2, by omega, by omega, by omega, by omega, by omega, by omega, by omega, by omega, by omega, by omega⟩⟩
  · rw [pow_cast, hT, ← Int.natCast_mul, hY]; exact wrap_nat _ hY1
  · rw [← hy1]; rfl
  · rw [mask_nat _ hY1, hy0]
  · rw [pow_cast, hT, ← Int.natCast_mul, hA]; exact wrap_nat _ (by omega)
  · rw [pow_cast, hT2, ← hB]; rfl
  · rw [bits_or_u64_nat _ _ (by omega) (by omega), hor]
  · rw [pow_cast, hT, ← Int.natCast_mul, wrap_mod, hL]
  · rw [← hd1]; rfl
  · rw [mask_nat _ hL2, hd0]
  · rw [hqz]
    obtain ⟨h1, h2⟩ := hre
    generalize DivM.dq U d1 Y * Y = z at *
    simp only [IntKind.wrap_u64]
    omega
  · rw [← hq]
    simp
set_option maxHeartbeats 8000000 in
set_option maxRecDepth 100000 in
theorem div64_more (hi lo y : Nat) (hh : hi < y) (h0 : 0 < hi) (hl : lo < 18446744073709551616) (hy : y < 18446744073709551616) (w : World) :
    Calls Tryd.prog 19 #[.int .u64 hi, .int .u64 lo, .int .u64 y] w fun e w' => (∃ r : Int, e = .returned (.tuple #[.int .u64 (((hi * 18446744073709551616 + lo) / y : Nat) : Int), .int .u64 r])) ∧ w' = w := by
  have y0' : ¬ ((y : Int) = 0) := by omega
  have y1' : ¬ ((y : Int) ≤ (hi : Int)) := by omega
  have hn0 : ¬ ((hi : Int) = 0) := by omega
  obtain ⟨k, hk, k63, hY0, hY1⟩ := norm_two (y := y) (by omega) hy
  have HL := lead64_any y w hy
  rw [hk] at HL
  have HLL := Lib.hid HL
  obtain ⟨Y, y1, y0, a, b, u, l, d1, d0, Q, v, Q0, N⟩ := div_nums hi lo y k hh hl k63 hY0 hY1
  obtain ⟨R, HR⟩ : ∃ R, Hid ((((hi * 18446744073709551616 + lo) / y : Nat) : Int) = R) := ⟨_, rfl⟩
  have hres := N.ER
  rw [HR.out] at hres ⊢
  obtain ⟨q, hq⟩ : ∃ q, Hid (u / y1 = q) := ⟨_, rfl⟩
  obtain ⟨p, hp⟩ : ∃ p, Hid (q * y1 = p) := ⟨_, rfl⟩
  obtain ⟨q', hq'⟩ : ∃ q, Hid (v / y1 = q) := ⟨_, rfl⟩
  obtain ⟨p', hp'⟩ : ∃ p, Hid (q' * y1 = p) := ⟨_, rfl⟩
  have e1 := N.D1.est0; have e2 := N.D1.est1; have e3 := N.D1.est2; have e4 := N.D1.est3; have e5 := N.D1.est4; have e6 := N.D1.est5
  rw [hq.out] at e1 e2 e3 e4 e5 e6
  rw [hp.out] at e4 e5 e6
  have f1 := N.D2.est0; have f2 := N.D2.est1; have f3 := N.D2.est2; have f4 := N.D2.est3; have f5 := N.D2.est4; have f6 := N.D2.est5
  rw [hq'.out] at f1 f2 f3 f4 f5 f6
  rw [hp'.out] at f4 f5 f6
  have HQE1 := Lib.hid e2
  have HQE2 := Lib.hid f2
  have HQR1 : Hid (q * y1 + (u - p) = u) := by show _ = _; rw [hp.out]; omega
  have HQR2 : Hid (q' * y1 + (v - p') = v) := by show _ = _; rw [hp'.out]; omega
  obtain ⟨bY0, bY1⟩ := N.bY
  obtain ⟨y10, y11⟩ := N.by1
  obtain ⟨y00, y01⟩ := N.by0
  obtain ⟨ba0, ba1⟩ := N.ba
  obtain ⟨bb0, bb1⟩ := N.bb
  obtain ⟨bu0, bu1⟩ := N.bu
  obtain ⟨bl0, bl1⟩ := N.bl
  obtain ⟨d10, d11⟩ := N.bd1
  obtain ⟨d00, d01⟩ := N.bd0
  obtain ⟨bv0, bv1⟩ := N.bv
  have yn : ¬ (y1 = 0) := by omega
  have q01 := e1
  have q11 := e3
  have r01 : 0 ≤ u - p := by omega
  have r11 : u - p ≤ 4294967295 := by omega
  have q02 := f1
  have q12 := f3
  have r02 : 0 ≤ v - p' := by omega
  have r12 : v - p' ≤ 4294967295 := by omega
  have Q00 := N.D1.lo
  have Q01 := N.D1.hi
  have P00 := N.D2.lo
  have P01 := N.D2.hi
  have HRES : Hid (IntKind.u64.wrap (Q * 4294967296 + Q0) = R) := by show _ = _; rw [IntKind.wrap_u64, ← hres]; omega
  have HRE2 : Hid (Q * 4294967296 + Q0 = R) := hres
  have T2 : Hid (v.tdiv y1 = q') := by show _ = _; rw [Int.tdiv_eq_ediv_of_nonneg bv0]; exact hq'.out
  have W1 : Hid (IntKind.u64.wrap q' = q') := by show _ = _; rw [IntKind.wrap_u64]; omega
  have W2 : Hid (IntKind.u64.wrap p' = p') := by show _ = _; rw [IntKind.wrap_u64]; omega
  have W3 : Hid (IntKind.u64.wrap (v - p') = v - p') := by show _ = _; rw [IntKind.wrap_u64]; omega
  clear HL hk e2 f2 hY0 hY1 hres
  have HNN := Lib.hid N
  clear N
  have N := HNN.out
  have EQ1 := Lib.hid hq.out
  have EP1 := Lib.hid hp.out
  go_enter Tryd.func19, Tryd.ntmps19
  go_wp2_with fail
  refine HLL.out.mono ?_
  rintro e w' ⟨rfl, rfl⟩
  go_wp2_with (simp only [HNN.out.EY, HNN.out.EY1, HNN.out.EY0, HNN.out.EA, HNN.out.EB, HNN.out.EU, HNN.out.EL, HNN.out.ED1, HNN.out.ED0, hq.out, hp.out])
  go_loop [15, 16] (fun vq vr => ∃ q r : Int, vq = .int .u64 q ∧ vr = .int .u64 r ∧ 0 ≤ q ∧ q ≤ 4294967297 ∧ 0 ≤ r ∧ r ≤ 4294967295 ∧ Hid (q * y1 + r = u) ∧ Hid (Q ≤ q)) (fun vq _ => (intOf vq).toNat)
  case atStart => exact ⟨_, _, rfl, rfl, q01, q11, r01, r11, HQR1.out, HQE1.out⟩
  case round =>
    obtain ⟨q, r, rfl, rfl, hq0, hq1, hr0, hr1, hqr, hle⟩ := hrel
    obtain ⟨m, hm⟩ : ∃ m, q * y0 = m := ⟨_, rfl⟩
    by_cases hB : 4294967296 ≤ q
    · have hmore := N.D1.more q r hq0 hr0 hqr.out (Or.inl hB)
      have HN : Hid ((q - 1) * y1 + (r + y1) = u) := by show _ = _; rw [← hqr.out, Int.sub_mul]; omega
      have HL : Hid (Q ≤ q - 1) := by show _ ≤ _; omega
      clear hmore hm
      by_cases hbr : 4294967296 ≤ r + y1
      · have hQ := N.D1.brk (q - 1) (r + y1) (by omega) hbr HN.out HL.out (by omega)
        have HQQ := Lib.hid hQ
        clear hQ
        go_wp2_with fail
        have N := HNN.out
        go_wp2_with (simp only [HQQ.out, HNN.out.EV, T2.out, W1.out, hq'.out, hp'.out, W2.out, W3.out])
        go_loop [18, 16] (fun vq vr => ∃ q r : Int, vq = .int .u64 q ∧ vr = .int .u64 r ∧ 0 ≤ q ∧ q ≤ 4294967297 ∧ 0 ≤ r ∧ r ≤ 4294967295 ∧ Hid (q * y1 + r = v) ∧ Hid (Q0 ≤ q)) (fun vq _ => (intOf vq).toNat)
        case atStart => exact ⟨_, _, rfl, rfl, q02, q12, r02, r12, HQR2.out, HQE2.out⟩
        case round =>
          obtain ⟨q, r, rfl, rfl, hq0, hq1, hr0, hr1, hqr, hle⟩ := hrel
          obtain ⟨m, hm⟩ : ∃ m, q * y0 = m := ⟨_, rfl⟩
          by_cases hB : 4294967296 ≤ q
          · have hmore := N.D2.more q r hq0 hr0 hqr.out (Or.inl hB)
            have HN : Hid ((q - 1) * y1 + (r + y1) = v) := by show _ = _; rw [← hqr.out, Int.sub_mul]; omega
            have HL : Hid (Q0 ≤ q - 1) := by show _ ≤ _; omega
            clear hmore hm
            by_cases hbr : 4294967296 ≤ r + y1
            · have hQ := N.D2.brk (q - 1) (r + y1) (by omega) hbr HN.out HL.out (by omega)
              have HQQ := Lib.hid hQ
              clear hQ
              go_wp2_with fail
              go_ret2
              exact ⟨ret_t (by rw [HQQ.out]; first | exact HRES.out | exact HRE2.out), rfl⟩
            · go_wp2_with fail
              go_round
              case rel => exact ⟨q - 1, r + y1, by go_num, by go_num, by omega, by omega, by omega, by omega, HN, HL⟩
              case measure => simp [intOf]; omega
          · have hm0 : 0 ≤ m := by rw [← hm]; exact Int.mul_nonneg hq0 y00
            have hm1 : m ≤ 18446744065119617025 := by rw [← hm]; have := Int.mul_le_mul (show q ≤ 4294967295 by omega) y01 y00 (by decide); omega
            by_cases ht : 4294967296 * r + d0 < m
            · have hmore := N.D2.more q r hq0 hr0 hqr.out (Or.inr (by rw [hm]; exact ht))
              have hlo := N.D2.lo
              have hq2 : 1 ≤ q := by omega
              have HN : Hid ((q - 1) * y1 + (r + y1) = v) := by show _ = _; rw [← hqr.out, Int.sub_mul]; omega
              have HL : Hid (Q0 ≤ q - 1) := by show _ ≤ _; omega
              have HM := Lib.hid hm
              clear hmore hm
              by_cases hbr : 4294967296 ≤ r + y1
              · have hQ := N.D2.brk (q - 1) (r + y1) (by omega) hbr HN.out HL.out (by omega)
                have HQQ := Lib.hid hQ
                clear hQ
                go_wp2_with (simp only [HM.out])
                go_ret2
                exact ⟨ret_t (by rw [HQQ.out]; first | exact HRES.out | exact HRE2.out), rfl⟩
              · go_wp2_with (simp only [HM.out])
                go_round
                case rel => exact ⟨q - 1, r + y1, by go_num, by go_num, by omega, by omega, by omega, by omega, HN, HL⟩
                case measure => simp [intOf]; omega
            · have hQ := N.D2.done q r hq0 hr0 hqr.out hle.out (by rw [hm]; omega)
              have HQQ := Lib.hid hQ
              have HM := Lib.hid hm
              clear hQ hm
              go_wp2_with (simp only [HM.out])
              go_ret2
              exact ⟨ret_t (by rw [HQQ.out]; first | exact HRES.out | exact HRE2.out), rfl⟩
      · go_wp2_with fail
        go_round
        case rel => exact ⟨q - 1, r + y1, by go_num, by go_num, by omega, by omega, by omega, by omega, HN, HL⟩
        case measure => simp [intOf]; omega
    · have hm0 : 0 ≤ m := by rw [← hm]; exact Int.mul_nonneg hq0 y00
      have hm1 : m ≤ 18446744065119617025 := by rw [← hm]; have := Int.mul_le_mul (show q ≤ 4294967295 by omega) y01 y00 (by decide); omega
      by_cases ht : 4294967296 * r + d1 < m
      · have hmore := N.D1.more q r hq0 hr0 hqr.out (Or.inr (by rw [hm]; exact ht))
        have hlo := N.D1.lo
        have hq2 : 1 ≤ q := by omega
        have HN : Hid ((q - 1) * y1 + (r + y1) = u) := by show _ = _; rw [← hqr.out, Int.sub_mul]; omega
        have HL : Hid (Q ≤ q - 1) := by show _ ≤ _; omega
        have HM := Lib.hid hm
        clear hmore hm
        by_cases hbr : 4294967296 ≤ r + y1
        · have hQ := N.D1.brk (q - 1) (r + y1) (by omega) hbr HN.out HL.out (by omega)
          have HQQ := Lib.hid hQ
          clear hQ
          go_wp2_with (simp only [HM.out])
          have N := HNN.out
          go_wp2_with (simp only [HQQ.out, HNN.out.EV, T2.out, W1.out, hq'.out, hp'.out, W2.out, W3.out])
          go_loop [18, 16] (fun vq vr => ∃ q r : Int, vq = .int .u64 q ∧ vr = .int .u64 r ∧ 0 ≤ q ∧ q ≤ 4294967297 ∧ 0 ≤ r ∧ r ≤ 4294967295 ∧ Hid (q * y1 + r = v) ∧ Hid (Q0 ≤ q)) (fun vq _ => (intOf vq).toNat)
          case atStart => exact ⟨_, _, rfl, rfl, q02, q12, r02, r12, HQR2.out, HQE2.out⟩
          case round =>
            obtain ⟨q, r, rfl, rfl, hq0, hq1, hr0, hr1, hqr, hle⟩ := hrel
            obtain ⟨m, hm⟩ : ∃ m, q * y0 = m := ⟨_, rfl⟩
            by_cases hB : 4294967296 ≤ q
            · have hmore := N.D2.more q r hq0 hr0 hqr.out (Or.inl hB)
              have HN : Hid ((q - 1) * y1 + (r + y1) = v) := by show _ = _; rw [← hqr.out, Int.sub_mul]; omega
              have HL : Hid (Q0 ≤ q - 1) := by show _ ≤ _; omega
              clear hmore hm
              by_cases hbr : 4294967296 ≤ r + y1
              · have hQ := N.D2.brk (q - 1) (r + y1) (by omega) hbr HN.out HL.out (by omega)
                have HQQ := Lib.hid hQ
                clear hQ
                go_wp2_with fail
                go_ret2
                exact ⟨ret_t (by rw [HQQ.out]; first | exact HRES.out | exact HRE2.out), rfl⟩
              · go_wp2_with fail
                go_round
                case rel => exact ⟨q - 1, r + y1, by go_num, by go_num, by omega, by omega, by omega, by omega, HN, HL⟩
                case measure => simp [intOf]; omega
            · have hm0 : 0 ≤ m := by rw [← hm]; exact Int.mul_nonneg hq0 y00
              have hm1 : m ≤ 18446744065119617025 := by rw [← hm]; have := Int.mul_le_mul (show q ≤ 4294967295 by omega) y01 y00 (by decide); omega
              by_cases ht : 4294967296 * r + d0 < m
              · have hmore := N.D2.more q r hq0 hr0 hqr.out (Or.inr (by rw [hm]; exact ht))
                have hlo := N.D2.lo
                have hq2 : 1 ≤ q := by omega
                have HN : Hid ((q - 1) * y1 + (r + y1) = v) := by show _ = _; rw [← hqr.out, Int.sub_mul]; omega
                have HL : Hid (Q0 ≤ q - 1) := by show _ ≤ _; omega
                have HM := Lib.hid hm
                clear hmore hm
                by_cases hbr : 4294967296 ≤ r + y1
                · have hQ := N.D2.brk (q - 1) (r + y1) (by omega) hbr HN.out HL.out (by omega)
                  have HQQ := Lib.hid hQ
                  clear hQ
                  go_wp2_with (simp only [HM.out])
                  go_ret2
                  exact ⟨ret_t (by rw [HQQ.out]; first | exact HRES.out | exact HRE2.out), rfl⟩
                · go_wp2_with (simp only [HM.out])
                  go_round
                  case rel => exact ⟨q - 1, r + y1, by go_num, by go_num, by omega, by omega, by omega, by omega, HN, HL⟩
                  case measure => simp [intOf]; omega
              · have hQ := N.D2.done q r hq0 hr0 hqr.out hle.out (by rw [hm]; omega)
                have HQQ := Lib.hid hQ
                have HM := Lib.hid hm
                clear hQ hm
                go_wp2_with (simp only [HM.out])
                go_ret2
                exact ⟨ret_t (by rw [HQQ.out]; first | exact HRES.out | exact HRE2.out), rfl⟩
        · go_wp2_with (simp only [HM.out])
          go_round
          case rel => exact ⟨q - 1, r + y1, by go_num, by go_num, by omega, by omega, by omega, by omega, HN, HL⟩
          case measure => simp [intOf]; omega
      · have hQ := N.D1.done q r hq0 hr0 hqr.out hle.out (by rw [hm]; omega)
        have HQQ := Lib.hid hQ
        have HM := Lib.hid hm
        clear hQ hm
        go_wp2_with (simp only [HM.out])
        have N := HNN.out
        go_wp2_with (simp only [HQQ.out, HNN.out.EV, T2.out, W1.out, hq'.out, hp'.out, W2.out, W3.out])
        go_loop [18, 16] (fun vq vr => ∃ q r : Int, vq = .int .u64 q ∧ vr = .int .u64 r ∧ 0 ≤ q ∧ q ≤ 4294967297 ∧ 0 ≤ r ∧ r ≤ 4294967295 ∧ Hid (q * y1 + r = v) ∧ Hid (Q0 ≤ q)) (fun vq _ => (intOf vq).toNat)
        case atStart => exact ⟨_, _, rfl, rfl, q02, q12, r02, r12, HQR2.out, HQE2.out⟩
        case round =>
          obtain ⟨q, r, rfl, rfl, hq0, hq1, hr0, hr1, hqr, hle⟩ := hrel
          obtain ⟨m, hm⟩ : ∃ m, q * y0 = m := ⟨_, rfl⟩
          by_cases hB : 4294967296 ≤ q
          · have hmore := N.D2.more q r hq0 hr0 hqr.out (Or.inl hB)
            have HN : Hid ((q - 1) * y1 + (r + y1) = v) := by show _ = _; rw [← hqr.out, Int.sub_mul]; omega
            have HL : Hid (Q0 ≤ q - 1) := by show _ ≤ _; omega
            clear hmore hm
            by_cases hbr : 4294967296 ≤ r + y1
            · have hQ := N.D2.brk (q - 1) (r + y1) (by omega) hbr HN.out HL.out (by omega)
              have HQQ := Lib.hid hQ
              clear hQ
              go_wp2_with fail
              go_ret2
              exact ⟨ret_t (by rw [HQQ.out]; first | exact HRES.out | exact HRE2.out), rfl⟩
            · go_wp2_with fail
              go_round
              case rel => exact ⟨q - 1, r + y1, by go_num, by go_num, by omega, by omega, by omega, by omega, HN, HL⟩
              case measure => simp [intOf]; omega
          · have hm0 : 0 ≤ m := by rw [← hm]; exact Int.mul_nonneg hq0 y00
            have hm1 : m ≤ 18446744065119617025 := by rw [← hm]; have := Int.mul_le_mul (show q ≤ 4294967295 by omega) y01 y00 (by decide); omega
            by_cases ht : 4294967296 * r + d0 < m
            · have hmore := N.D2.more q r hq0 hr0 hqr.out (Or.inr (by rw [hm]; exact ht))
              have hlo := N.D2.lo
              have hq2 : 1 ≤ q := by omega
              have HN : Hid ((q - 1) * y1 + (r + y1) = v) := by show _ = _; rw [← hqr.out, Int.sub_mul]; omega
              have HL : Hid (Q0 ≤ q - 1) := by show _ ≤ _; omega
              have HM := Lib.hid hm
              clear hmore hm
              by_cases hbr : 4294967296 ≤ r + y1
              · have hQ := N.D2.brk (q - 1) (r + y1) (by omega) hbr HN.out HL.out (by omega)
                have HQQ := Lib.hid hQ
                clear hQ
                go_wp2_with (simp only [HM.out])
                go_ret2
                exact ⟨ret_t (by rw [HQQ.out]; first | exact HRES.out | exact HRE2.out), rfl⟩
              · go_wp2_with (simp only [HM.out])
                go_round
                case rel => exact ⟨q - 1, r + y1, by go_num, by go_num, by omega, by omega, by omega, by omega, HN, HL⟩
                case measure => simp [intOf]; omega
            · have hQ := N.D2.done q r hq0 hr0 hqr.out hle.out (by rw [hm]; omega)
              have HQQ := Lib.hid hQ
              have HM := Lib.hid hm
              clear hQ hm
              go_wp2_with (simp only [HM.out])
              go_ret2
              exact ⟨ret_t (by rw [HQQ.out]; first | exact HRES.out | exact HRE2.out), rfl⟩
end Go.Proofs.YtgenkmihbnkakaaDoor
