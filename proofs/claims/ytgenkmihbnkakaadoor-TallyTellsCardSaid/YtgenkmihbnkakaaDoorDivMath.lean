/- Plain mathematics of long division by digits of 32 bits (math/bits.Div64). No conditions. -/
set_option linter.unusedVariables false
set_option linter.unusedSimpArgs false
set_option maxRecDepth 20000
namespace Go.Proofs.YtgenkmihbnkakaaDoor.DivM
def dq (u d y : Nat) : Nat := (u * 4294967296 + d) / y
theorem dq_lt {u d y : Nat} (hu : u < y) (hd : d < 4294967296) : dq u d y < 4294967296 := by
  unfold dq
  refine Nat.div_lt_of_lt_mul ?_
  have h : (u + 1) * 4294967296 ≤ y * 4294967296 := Nat.mul_le_mul_right _ hu
  omega
theorem dig_split (q y1 y0 : Nat) : q * (y1 * 4294967296 + y0) = (q * y1) * 4294967296 + q * y0 := by
  rw [Nat.mul_add, ← Nat.mul_assoc]
theorem dig_more {u d y1 y0 q r : Nat} (hq : q * y1 + r = u) (hu : u < y1 * 4294967296 + y0) (hd : d < 4294967296)
    (h : 4294967296 ≤ q ∨ 4294967296 * r + d < q * y0) : dq u d (y1 * 4294967296 + y0) < q := by
  rcases h with h | h
  · exact Nat.lt_of_lt_of_le (dq_lt hu hd) h
  · unfold dq
    refine Nat.div_lt_of_lt_mul ?_
    rw [Nat.mul_comm _ q, dig_split]
    generalize q * y1 = a at *
    generalize q * y0 = b at *
    omega
theorem dig_done {u d y1 y0 q r : Nat} (hq : q * y1 + r = u) (hy : 0 < y1 * 4294967296 + y0) (h : ¬ 4294967296 * r + d < q * y0) :
    q ≤ dq u d (y1 * 4294967296 + y0) := by
  unfold dq
  rw [Nat.le_div_iff_mul_le hy, dig_split]
  generalize q * y1 = a at *
  generalize q * y0 = b at *
  omega
theorem dig_break {u d y1 y0 q r : Nat} (hq : q * y1 + r = u) (hy : 0 < y1 * 4294967296 + y0) (hr : 4294967296 ≤ r) (hq2 : q ≤ 4294967296) (h0 : y0 < 4294967296) :
    q ≤ dq u d (y1 * 4294967296 + y0) := by
  refine dig_done hq hy ?_
  have : q * y0 ≤ 4294967296 * 4294967295 := Nat.mul_le_mul hq2 (by omega)
  omega
theorem dig_est {u d y1 y0 : Nat} (h1 : 2147483648 ≤ y1) (h0 : y0 < 4294967296) (hu : u < y1 * 4294967296 + y0) (hd : d < 4294967296) :
    dq u d (y1 * 4294967296 + y0) ≤ u / y1 ∧ u / y1 ≤ 4294967297 ∧ (u / y1) * y1 + u % y1 = u := by
  refine ⟨?_, ?_, Nat.div_add_mod' u y1⟩
  · refine Nat.le_of_lt_succ ?_
    have h := Nat.lt_div_mul_add (a := u) (b := y1) (by omega)
    unfold dq
    refine Nat.div_lt_of_lt_mul ?_
    rw [Nat.succ_eq_add_one, Nat.mul_comm _ (u / y1 + 1), dig_split, Nat.add_mul (u / y1) 1 y1, Nat.one_mul]
    have := Nat.zero_le ((u / y1 + 1) * y0)
    generalize (u / y1 + 1) * y0 = c at *
    generalize u / y1 * y1 = a at *
    omega
  · have h3 : u / y1 < 4294967298 := by
      rw [Nat.div_lt_iff_lt_mul (by omega)]
      omega
    omega
/-- Two digits, one behind the other. -/
theorem dig_two (a c y : Nat) (hy : 0 < y) : (a * 4294967296 + c) / y = (a / y) * 4294967296 + dq (a % y) c y := by
  unfold dq
  have e : a * 4294967296 + c = ((a % y) * 4294967296 + c) + (a / y) * 4294967296 * y := by
    have h := Nat.div_add_mod' a y
    have h2 : (a / y) * 4294967296 * y = (a / y * y) * 4294967296 := Nat.mul_right_comm _ _ _
    rw [h2]
    generalize a / y * y = z at *
    omega
  rw [e, Nat.add_mul_div_right _ _ hy]
  omega
theorem shift_in {lo T T2 : Nat} (hT : T * T2 = 18446744073709551616) (h0 : 0 < T) : (lo / T2) * 18446744073709551616 + (lo * T) % 18446744073709551616 = lo * T := by
  have e : lo * T / 18446744073709551616 = lo / T2 := by
    rw [← hT, Nat.mul_comm lo T, Nat.mul_div_mul_left _ _ h0]
  have := Nat.div_add_mod' (lo * T) 18446744073709551616
  rw [e] at this
  exact this
theorem all_in {hi lo y T T2 u l : Nat} (hT : T * T2 = 18446744073709551616) (h0 : 0 < T) (hu : u = hi * T + lo / T2) (hl : l = (lo * T) % 18446744073709551616) :
    (u * 4294967296 + l / 4294967296) * 4294967296 + l % 4294967296 = (hi * 18446744073709551616 + lo) * T := by
  have h := shift_in (lo := lo) hT h0
  rw [← hl] at h
  have e : l / 4294967296 * 4294967296 + l % 4294967296 = l := Nat.div_add_mod' _ _
  have e2 : (hi * 18446744073709551616 + lo) * T = hi * T * 18446744073709551616 + lo * T := by rw [Nat.add_mul, Nat.mul_right_comm]
  rw [e2]
  subst hu
  generalize hi * T = z at *
  generalize lo / T2 = x at *
  generalize lo * T = v at *
  clear hl hT h0
  generalize l / 4294967296 = p at *
  generalize l % 4294967296 = q at *
  have e3 : ∀ k : Nat, k * 4294967296 * 4294967296 = k * 18446744073709551616 := fun k => Nat.mul_assoc k _ _
  rw [Nat.add_mul _ p, Nat.add_mul z x, Nat.add_mul _ (x * _), e3, e3, Nat.add_assoc _ (p * _) q, e, Nat.add_assoc, h]
theorem quo_all {hi lo y T T2 u l : Nat} (hT : T * T2 = 18446744073709551616) (h0 : 0 < T) (hy : 0 < y) (hu : u = hi * T + lo / T2) (hl : l = (lo * T) % 18446744073709551616) :
    dq u (l / 4294967296) (y * T) * 4294967296 + dq ((u * 4294967296 + l / 4294967296) % (y * T)) (l % 4294967296) (y * T) = (hi * 18446744073709551616 + lo) / y := by
  have h := all_in (y := y) hT h0 hu hl
  rw [← Nat.mul_div_mul_right (hi * 18446744073709551616 + lo) y h0, ← h]
  rw [dig_two _ _ _ (Nat.mul_pos hy h0)]
  rfl
theorem u_lt {hi lo y T T2 u : Nat} (hT : T * T2 = 18446744073709551616) (h0 : 0 < T) (hh : hi < y) (hl : lo < 18446744073709551616) (hu : u = hi * T + lo / T2) : u < y * T := by
  have h1 : lo / T2 < T := by
    refine Nat.div_lt_of_lt_mul ?_
    rw [Nat.mul_comm, hT]; exact hl
  have h2 : (hi + 1) * T ≤ y * T := Nat.mul_le_mul_right _ hh
  rw [Nat.add_mul, Nat.one_mul] at h2
  omega
theorem rem_eq (u d y : Nat) (hy : 0 < y) : u * 4294967296 + d - dq u d y * y = (u * 4294967296 + d) % y ∧ dq u d y * y ≤ u * 4294967296 + d := by
  unfold dq
  have := Nat.div_add_mod' (u * 4294967296 + d) y
  omega
theorem wrap_rem {u d z v : Int} (h : v = u * 4294967296 + d - z) (h0 : 0 ≤ v) (h1 : v < 18446744073709551616) : (((u * 4294967296) % 18446744073709551616 + d) % 18446744073709551616 - z % 18446744073709551616) % 18446744073709551616 = v := by
  omega
end Go.Proofs.YtgenkmihbnkakaaDoor.DivM
