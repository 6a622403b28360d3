/- The contracts of package pack: Put, Get, Fix, Unfix, and of bytes.Clone: what they answer is new. Conditions: the slices' cells; at most 900 bytes ahead. -/
import Derived.Test.YtopfdeihjjikiaaOwn
import Derived.Test.YtopfdeihjjikiaaPackMath
import Derived.Lib.SliceRun
set_option linter.unusedVariables false
set_option linter.unusedSimpArgs false
namespace Go.Proofs.Ytopfdeihjjikiaa
open Go.RowKit

set_option maxHeartbeats 1000000 in
theorem room_any (A : Option Addr) (n c : Nat) (bs : List Nat) (x : Int) (w : World) (hn : n ≤ 3000) (h0 : 0 ≤ x) (h1 : x ≤ 20) (hA : Bytes w w.heap.size A n bs) :
    Calls Try.prog 49 #[.slice A n c, .int .i64 x] w fun e w' => ∃ A' c', e = .returned (.slice A' n c') ∧ Hid (Own w' w.heap.size A' n c' bs) ∧ Hid (Below w.heap.size w w') := by
  have hmk := make_room n x (by omega) h0 (by omega) w
  have hS := since_alloc (Below.refl w.heap.size w) (.cells (madeCells #[.int .u8 0] ((n : Int) + x).toNat) 5)
  obtain ⟨A2, c2, W2, hr, ho, hb⟩ := own_append (c' := c) hS (own_made w ((n : Int) + x).toNat (by omega) (Nat.le_refl _)) (hA.since hS) (by omega)
  rw [Nat.zero_add] at hr ho
  rw [List.nil_append] at ho
  have R := Lib.hid hr
  have HO := Lib.hid ho
  have HB := Lib.hid hb
  clear hr ho hb hA hS
  go_enter Try.func49, Try.ntmps49
  go_wp2_with (at_builtin; refine wpList_append_run rfl (.tmp 11) (.tmp 12) 38 rfl rfl rfl R.out ?_)
  go_ret
  exact ⟨_, _, rfl, HO, HB⟩

theorem or128 {y b : Int} {u : Nat} (h0 : 0 ≤ y) (HY : y = (u : Int)) : bits .or .u8 (y % 256) 128 = ((u % 128 + 128 : Nat) : Int) := by
  have e : y % 256 = ((u % 256 : Nat) : Int) := by omega
  rw [e]
  have := u8_or_nat (u % 256) 128 (by omega) (by omega)
  rw [show (128 : Int) = ((128 : Nat) : Int) by rfl, this]
  congr 1
  have hx : u % 256 = u % 128 ∨ u % 256 = u % 128 + 128 := by omega
  rcases hx with h | h
  · rw [h, Nat.or_comm]
    have := nat_join 7 128 (u % 128) (by decide) (by omega)
    omega
  · have e1 := nat_join 7 128 (u % 128) (by decide) (by omega)
    have e2 : u % 256 = 128 ||| u % 128 := by omega
    rw [e2, Nat.or_comm, ← Nat.or_assoc, Nat.or_self]; omega

theorem may_any (x : Int) (w : World) : Calls Try.prog 48 #[.int .i64 x] w fun e w' => e = .returned (.bool (decide (0 ≤ x ∧ x ≤ 8))) ∧ w = w' := by
  by_cases h0 : 0 ≤ x
  · by_cases h1 : x ≤ 8
    all_goals
      go_enter Try.func48, Try.ntmps48
      go_wp2
      go_ret
      simp [h0, h1]
  · go_enter Try.func48, Try.ntmps48
    go_wp2
    go_ret
    simp [h0]
    omega
/-- How many bytes Fix lays. -/
def fixMany (x : Int) : Nat := if 0 ≤ x ∧ x ≤ 8 then x.toNat else 0
theorem fixMany_yes {x : Int} (h : 0 ≤ x ∧ x ≤ 8) : fixMany x = x.toNat := if_pos h
theorem fixMany_no {x : Int} (h : ¬(0 ≤ x ∧ x ≤ 8)) : fixMany x = 0 := if_neg h
theorem fix_shift {x a : Int} {v : Nat} (HX : x = (v : Int)) (h0 : 0 ≤ a) : x / 2 ^ (8 * a).toNat = ((v / 256 ^ a.toNat : Nat) : Int) := by
  have e : (8 * a).toNat = 8 * a.toNat := by omega
  rw [HX, e, show (256 : Nat) = 2 ^ 8 by rfl, ← Nat.pow_mul]
  simp
set_option maxHeartbeats 1000000 in
theorem fix_loop (A : Option Addr) (n c : Nat) (bs : List Nat) (x m : Int) (v : Nat) (w : World) (h0 : 0 ≤ x) (h1 : x ≤ 18446744073709551615) (HX : Hid (x = (v : Int))) (m0 : 0 ≤ m) (m1 : m ≤ 8) (hn : n ≤ 900) (hA : Bytes w w.heap.size A n bs) :
    Calls Try.prog 43 #[.slice A n c, .int .u64 x, .int .i64 m] w (GivesBytes w (bs ++ Pk.fix v m.toNat)) := by
  have HA := Lib.hid hA
  have hmay := may_any m
  rw [decide_eq_true ⟨m0, m1⟩] at hmay
  obtain ⟨N, hN0, HN⟩ : ∃ N : Nat, N ≤ 910 ∧ Hid ((bs ++ Pk.fix v m.toNat).length = N) := ⟨_, by rw [List.length_append, Pk.fix_len, hA.len]; omega, rfl⟩
  have HM := Lib.hid hmay
  clear hA hmay
  go_enter Try.func43, Try.ntmps43
  go_wp2_with fail
  refine (HM.out _).mono ?_
  rintro e w' ⟨rfl, rfl⟩
  go_wp2_with fail
  refine (room_any A n c bs m _ (by omega) m0 (by omega) HA.out).mono ?_
  rintro e W1 ⟨A1, c1, rfl, HO, HB⟩
  go_wp2_with fail
  go_loopw [7, 8] (fun t7 t8 wr => ∃ (A : Option Addr) (k c : Nat) (us : List Nat) (a : Int), t7 = .slice A k c ∧ t8 = .int .i64 a ∧ -1 ≤ a ∧ a ≤ 7 ∧ Hid (us ++ Pk.fix v (a + 1).toNat = bs ++ Pk.fix v m.toNat) ∧ Hid (Own wr w.heap.size A k c us) ∧ Hid (Below w.heap.size w wr)) (fun _ t8 _ => (intOf t8 + 1).toNat)
  case atStart => exact ⟨A1, n, c1, bs, m - 1, rfl, by go_num, by omega, by omega, by rw [show m - 1 + 1 = m by omega]; rfl, HO, HB⟩
  case round =>
    obtain ⟨A3, k, c3, us, a, rfl, rfl, ha0, ha1, HU, HO3, HB3⟩ := hrel
    by_cases hlt : 0 ≤ a
    · have hk : k + 1 ≤ 8000 := by
        have e := congrArg List.length HU.out
        rw [HN.out, List.length_append, HO3.out.len, Pk.fix_len] at e
        omega
      have hs := fix_shift HX.out hlt
      obtain ⟨q, HQ⟩ : ∃ q : Int, Hid (q = ((v / 256 ^ a.toNat : Nat) : Int)) := ⟨_, rfl⟩
      rw [← HQ.out] at hs
      have hq0 : 0 ≤ q := by rw [HQ.out]; exact Int.natCast_nonneg _
      have hq1 : q ≤ 18446744073709551615 := by
        have h : v / 256 ^ a.toNat ≤ v := Nat.div_le_self _ _
        have := HX.out
        rw [HQ.out]; omega
      obtain ⟨z, hz, HZ⟩ : ∃ z : Int, q % 256 = z ∧ Hid (z = ((v / 256 ^ a.toNat % 256 : Nat) : Int)) := ⟨_, rfl, by rw [HQ.out]; show _ = _; omega⟩
      obtain ⟨A4, c4, W4, hr, ho, hb⟩ := own_append_one HB3.out HO3.out z _ HZ.out (by omega) hk
      have R := Lib.hid hr
      have HO4 := Lib.hid ho
      have HB4 := Lib.hid hb
      have HU4 : Hid ((us ++ [v / 256 ^ a.toNat % 256]) ++ Pk.fix v (a - 1 + 1).toNat = bs ++ Pk.fix v m.toNat) := by
        have e := HU.out
        rw [show (a + 1).toNat = (a - 1 + 1).toNat + 1 by omega] at e
        rw [List.append_assoc]
        have e2 : (a - 1 + 1).toNat = a.toNat := by omega
        rw [e2] at e ⊢
        exact e
      have HS := Lib.hid hs
      clear hr ho hb hk hs
      go_wp2_with (first | (simp only [HS.out]) | (at_builtin; refine wpList_append_run rfl (.tmp 21) (.tmp 27) 38 rfl rfl rfl R.out ?_))
      go_roundw
      case rel => exact ⟨_, _, _, _, a - 1, rfl, by go_num, by omega, by omega, HU4, HO4, HB4⟩
      case measure => simp [intOf]; omega
    · have ha : a = -1 := by omega
      subst ha
      have HU4 : Hid (us = bs ++ Pk.fix v m.toNat) := by
        have e := HU.out
        simp [Pk.fix] at e
        exact e
      go_wp2_with fail
      go_ret
      exact ⟨_, _, _, rfl, HO3.out.same HU4.out, HB3.out⟩

set_option maxHeartbeats 1000000 in
theorem fix_none (A : Option Addr) (n c : Nat) (bs : List Nat) (x m : Int) (w : World) (hm : ¬(0 ≤ m ∧ m ≤ 8)) (hn : n ≤ 900) (hA : Bytes w w.heap.size A n bs) :
    Calls Try.prog 43 #[.slice A n c, .int .u64 x, .int .i64 m] w (GivesBytes w bs) := by
  have HA := Lib.hid hA
  have hmay := may_any m
  rw [decide_eq_false hm] at hmay
  have HM := Lib.hid hmay
  clear hA hmay hm
  go_enter Try.func43, Try.ntmps43
  go_wp2_with fail
  refine (HM.out _).mono ?_
  rintro e w' ⟨rfl, rfl⟩
  go_wp2_with fail
  refine (room_any A n c bs 0 _ (by omega) (by omega) (by omega) HA.out).mono ?_
  rintro e W1 ⟨A1, c1, rfl, HO, HB⟩
  go_wp2_with fail
  go_loopw [7, 8] (fun t7 t8 wr => t7 = .slice A1 n c1 ∧ t8 = .int .i64 (-1) ∧ Hid (Own wr w.heap.size A1 n c1 bs) ∧ Hid (Below w.heap.size w wr)) (fun _ _ _ => 0)
  case atStart => exact ⟨rfl, rfl, HO, HB⟩
  case round =>
    obtain ⟨rfl, rfl, HO3, HB3⟩ := hrel
    go_wp2_with fail
    go_ret
    exact ⟨_, _, _, rfl, HO3.out, HB3.out⟩
theorem fix_any (A : Option Addr) (n c : Nat) (bs : List Nat) (x m : Int) (v : Nat) (w : World) (h0 : 0 ≤ x) (h1 : x ≤ 18446744073709551615) (HX : Hid (x = (v : Int))) (hn : n ≤ 900) (hA : Bytes w w.heap.size A n bs) :
    Calls Try.prog 43 #[.slice A n c, .int .u64 x, .int .i64 m] w (GivesBytes w (bs ++ Pk.fix v (fixMany m))) := by
  by_cases hm : 0 ≤ m ∧ m ≤ 8
  · rw [fixMany_yes hm]
    exact fix_loop A n c bs x m v w h0 h1 HX hm.1 hm.2 hn hA
  · rw [fixMany_no hm, Pk.fix, List.append_nil]
    exact fix_none A n c bs x m w hm hn hA

theorem own_empty {base : Nat} (W : World) (hb : base ≤ W.heap.size) : Own (W.alloc (.cells #[] 5)) base (some ⟨W.heap.size, 0, none⟩) 0 0 [] :=
  ⟨World.ownsRow_lit W #[] 0 hb (by unfold maxLen; omega) (by simp), fun k => by simp⟩
set_option maxHeartbeats 1000000 in
theorem clone_any (A : Option Addr) (n c : Nat) (bs : List Nat) (w : World) (hn : n ≤ 900) (hA : Bytes w w.heap.size A n bs) :
    Calls Try.prog 51 #[.slice A n c] w (GivesBytes w bs) := by
  rcases A with _ | ad
  · have hn0 : bs = [] := by
      rcases Nat.eq_zero_or_pos n with h | h
      · exact List.eq_nil_of_length_eq_zero (hA.len.trans h)
      · obtain ⟨ad, h', _⟩ := hA.lies 0 h
        cases h'
    subst hn0
    clear hA
    have heq : ∀ W : World, (binOp .eql 38 (.slice none n c) (.slice none 0 0)).run Try.prog W = .ok (.bool true) W := fun W => Lib.run_eql_slice_nil W _ _ _ _ _ _ _ Try.underlying38
    go_enter Try.func51, Try.ntmps51
    go_wp2
    go_ret
    exact ⟨_, _, _, rfl, Own.none_, Below.refl _ _⟩
  · have hS := since_alloc (Below.refl w.heap.size w) (.cells #[] 5)
    obtain ⟨A2, c2, W2, hr, ho, hb⟩ := own_append (c' := c) hS (own_empty w (Nat.le_refl _)) (hA.since hS) (by omega)
    rw [Nat.zero_add] at hr ho
    rw [List.nil_append] at ho
    have R := Lib.hid hr
    have HO := Lib.hid ho
    have HB := Lib.hid hb
    clear hr ho hb hA hS
    have heq : ∀ W : World, (binOp .eql 38 (.slice (some ad) n c) (.slice none 0 0)).run Try.prog W = .ok (.bool false) W := fun W => Lib.run_eql_slice_nil W _ _ _ _ _ _ _ Try.underlying38
    go_enter Try.func51, Try.ntmps51
    go_wp2_with (at_builtin; refine wpList_append_run rfl (.tmp 5) (.tmp 6) 38 rfl rfl rfl R.out ?_)
    go_ret
    exact ⟨_, _, _, rfl, HO.out, HB.out⟩

/-- What Get and Unfix leave. -/
def Got (w : World) : Option (Nat × List Nat) → Ending → World → Prop
  | none, e, w' => e = .returned (.tuple #[.int .u64 0, .slice none 0 0, .bool false]) ∧ Hid (Below w.heap.size w w')
  | some (v, r), e, w' => ∃ (y : Int) (A : Option Addr) (n c : Nat), e = .returned (.tuple #[.int .u64 y, .slice A n c, .bool true]) ∧ Hid (y = (v : Int)) ∧ 0 ≤ y ∧ y ≤ 18446744073709551615 ∧ n ≤ 900 ∧ Hid (Own w' w.heap.size A n c r) ∧ Hid (Below w.heap.size w w')
theorem drop_cons {bs : List Nat} {k : Nat} (h : k < bs.length) : bs.drop k = bs.getD k 0 :: bs.drop (k + 1) := by
  rw [List.drop_eq_getElem_cons h, List.getD_eq_getElem?_getD, List.getElem?_eq_getElem h]; rfl
theorem andNot128 {z : Int} {b : Nat} (HZ : (b : Int) = z) (hb : b < 256) : bits .andNot .u8 z 128 = ((b % 128 : Nat) : Int) := by
  rw [← HZ, show (128 : Int) = ((128 : Nat) : Int) by rfl, u8_andNot_nat b 128 hb (by omega)]
  exact congrArg _ (nat_mask7 b)
theorem wrap_lit {d : Int} (h0 : 0 ≤ d) (h1 : d < 18446744073709551616) : IntKind.u64.wrap d = d := by rw [IntKind.wrap_u64]; omega
theorem pow128 (k : Nat) : (2 : Int) ^ (7 * k) = ((128 ^ k : Nat) : Int) := by
  rw [show (128 : Nat) = 2 ^ 7 by rfl, ← Nat.pow_mul]; simp
theorem or_step {y d : Int} {u b k : Nat} (HY : y = (u : Int)) (HD : d = ((b % 128 : Nat) : Int)) (hu : u < 128 ^ k) (hk : k ≤ 9) (h9 : ¬(k = 9 ∧ 1 < b)) :
    bits .or .u64 y (IntKind.u64.wrap (IntKind.u64.wrap d * 2 ^ (7 * k))) = ((u + b % 128 * 128 ^ k : Nat) : Int) ∧ u + b % 128 * 128 ^ k < 18446744073709551616 := by
  have hlt : b % 128 * 128 ^ k + 128 ^ k ≤ 18446744073709551616 := by
    rcases (by omega : k ≤ 8 ∨ k = 9) with h | rfl
    · have e : b % 128 * 128 ^ k + 128 ^ k = (b % 128 + 1) * 128 ^ k := by rw [Nat.add_mul, Nat.one_mul]
      rw [e]
      have h1 : (b % 128 + 1) * 128 ^ k ≤ 128 * 128 ^ 8 := Nat.mul_le_mul (by omega) (Nat.pow_le_pow_right (by omega) h)
      exact Nat.le_trans h1 (by decide)
    · rw [Pk.pow9]; omega
  have hs : u + b % 128 * 128 ^ k < 18446744073709551616 := by omega
  refine ⟨?_, hs⟩
  have e1 : IntKind.u64.wrap d = d := wrap_lit (by omega) (by omega)
  have e2 : d * 2 ^ (7 * k) = ((b % 128 * 128 ^ k : Nat) : Int) := by rw [HD, pow128]; simp
  rw [e1, e2, wrap_lit (Int.natCast_nonneg _) (by omega), HY, u64_or_nat _ _ (by omega) (by omega), Nat.or_comm]
  congr 1
  have hj := nat_join (7 * k) (b % 128 * 128 ^ k) u (by rw [show (128 : Nat) ^ k = 2 ^ (7 * k) by rw [Nat.pow_mul]]; exact Nat.mul_mod_left _ _) (by rw [show (2 : Nat) ^ (7 * k) = 128 ^ k by rw [Nat.pow_mul]]; exact hu)
  omega
theorem step_lt {u b k : Nat} (hu : u < 128 ^ k) : u + b % 128 * 128 ^ k < 128 ^ (k + 1) := by
  rw [Nat.pow_succ, Nat.mul_comm (128 ^ k) 128]
  have h1 : (b % 128 + 1) * 128 ^ k ≤ 128 * 128 ^ k := Nat.mul_le_mul_right _ (by omega)
  rw [Nat.add_mul, Nat.one_mul] at h1
  omega
end Go.Proofs.Ytopfdeihjjikiaa
