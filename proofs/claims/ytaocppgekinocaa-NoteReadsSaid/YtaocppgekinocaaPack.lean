/- The contracts of package pack: Put, Get, Fix, Unfix, and of bytes.Clone: what they answer is new. Conditions: the slices' cells; at most 900 bytes ahead. -/
import Derived.Test.YtaocppgekinocaaOwn
import Derived.Test.YtaocppgekinocaaPackMath
import Derived.Lib.SliceRun
set_option linter.unusedVariables false
set_option linter.unusedSimpArgs false
namespace Go.Proofs.Ytaocppgekinocaa
open Go.RowKit

set_option maxHeartbeats 1000000 in
theorem room_any (A : Option Addr) (n c : Nat) (bs : List Nat) (x : Int) (w : World) (hn : n ≤ 3000) (h0 : 0 ≤ x) (h1 : x ≤ 20) (hA : Bytes w w.heap.size A n bs) :
    Calls Try.prog 45 #[.slice A n c, .int .i64 x] w fun e w' => ∃ A' c', e = .returned (.slice A' n c') ∧ Hid (Own w' w.heap.size A' n c' bs) ∧ Hid (Below w.heap.size w w') := by
  have hmk := make_room n x (by omega) h0 (by omega) w
  have hS := since_alloc (Below.refl w.heap.size w) (.cells (madeCells #[.int .u8 0] ((n : Int) + x).toNat) 5)
  obtain ⟨A2, c2, W2, hr, ho, hb⟩ := own_append (c' := c) hS (own_made w ((n : Int) + x).toNat (by omega) (Nat.le_refl _)) (hA.since hS) (by omega)
  rw [Nat.zero_add] at hr ho
  rw [List.nil_append] at ho
  have R := Lib.hid hr
  have HO := Lib.hid ho
  have HB := Lib.hid hb
  clear hr ho hb hA hS
  go_enter Try.func45, Try.ntmps45
  go_wp2_with (at_builtin; refine wpList_append_run rfl (.tmp 11) (.tmp 12) 25 rfl rfl rfl R.out ?_)
  go_ret
  exact ⟨_, _, rfl, HO, HB⟩

theorem or128 {y b : Int} {u : Nat} (h0 : 0 ≤ y) (HY : y = (u : Int)) : bits .or .u8 (y % 256) 128 = ((u % 128 + 128 : Nat) : Int) := by
  have e : y % 256 = ((u % 256 : Nat) : Int) := by omega
  rw [e]
  have := u8_or_nat (u % 256) 128 (by omega) (by omega)
  rw [show (128 : Int) = ((128 : Nat) : Int) by rfl, this]
  congr 1
  have hx : u % 256 = u % 128 ∨ u % 256 = u % 128 + 128 := by omega
  rcases hx with h | h
  · rw [h, Nat.or_comm]
    have := nat_join 7 128 (u % 128) (by decide) (by omega)
    omega
  · have e1 := nat_join 7 128 (u % 128) (by decide) (by omega)
    have e2 : u % 256 = 128 ||| u % 128 := by omega
    rw [e2, Nat.or_comm, ← Nat.or_assoc, Nat.or_self]; omega
set_option maxHeartbeats 1000000 in
theorem put_any (A : Option Addr) (n c : Nat) (bs : List Nat) (x : Int) (v : Nat) (w : World) (h0 : 0 ≤ x) (h1 : x ≤ 18446744073709551615) (HX : Hid (x = (v : Int))) (hn : n ≤ 3000) (hA : Bytes w w.heap.size A n bs) :
    Calls Try.prog 42 #[.slice A n c, .int .u64 x] w (GivesBytes w (bs ++ Pk.put v)) := by
  have HA := Lib.hid hA
  have hlen := hA.len
  have h10 : (Pk.put v).length ≤ 10 := Pk.put_len10 (by have := HX.out; omega)
  obtain ⟨N, hN0, HN⟩ : ∃ N : Nat, N ≤ 3010 ∧ Hid ((bs ++ Pk.put v).length = N) := ⟨_, by rw [List.length_append]; omega, rfl⟩
  clear hA hlen h10
  go_enter Try.func42, Try.ntmps42
  go_wp2_with fail
  refine (room_any A n c bs 10 _ hn (by omega) (by omega) HA.out).mono ?_
  rintro e W1 ⟨A1, c1, rfl, HO, HB⟩
  go_wp2_with fail
  go_loopw [1, 5] (fun t1 t5 wr => ∃ (A : Option Addr) (k c : Nat) (us : List Nat) (y : Int) (u : Nat), t5 = .slice A k c ∧ t1 = .int .u64 y ∧ 0 ≤ y ∧ y ≤ 18446744073709551615 ∧ Hid (y = (u : Int)) ∧ Hid (us ++ Pk.put u = bs ++ Pk.put v) ∧ Hid (Own wr w.heap.size A k c us) ∧ Hid (Below w.heap.size w wr)) (fun t1 _ _ => (intOf t1).toNat)
  case atStart => exact ⟨A1, n, c1, bs, x, v, rfl, rfl, h0, h1, HX, rfl, HO, HB⟩
  case round =>
    obtain ⟨A3, k, c3, us, y, u, rfl, rfl, hy0, hy1, HY, HU, HO3, HB3⟩ := hrel
    have hk : k + 1 ≤ 8000 := by
      have e := congrArg List.length HU.out
      rw [HN.out, List.length_append, HO3.out.len] at e
      have := Pk.put_pos u
      omega
    by_cases hlt : 128 ≤ y
    · have hz := or128 (b := 0) hy0 HY.out
      obtain ⟨z, HZ⟩ : ∃ z : Int, Hid (z = ((u % 128 + 128 : Nat) : Int)) := ⟨_, rfl⟩
      rw [← HZ.out] at hz
      obtain ⟨A4, c4, W4, hr, ho, hb⟩ := own_append_one HB3.out HO3.out z _ HZ.out (by omega) hk
      have R := Lib.hid hr
      have HO4 := Lib.hid ho
      have HB4 := Lib.hid hb
      have HU4 : Hid ((us ++ [u % 128 + 128]) ++ Pk.put (u / 128) = bs ++ Pk.put v) := by
        have e := HU.out
        rw [Pk.put_big (by have := HY.out; omega)] at e
        rw [List.append_assoc]; exact e
      have HY4 : Hid (y / 128 = ((u / 128 : Nat) : Int)) := by
        have e := HY.out
        show _ = _
        omega
      clear hr ho hb hk
      go_wp2_with (at_builtin; refine wpList_append_run rfl (.tmp 10) (.tmp 14) 25 rfl rfl rfl R.out ?_)
      go_roundw
      case rel => exact ⟨_, _, _, _, _, _, rfl, rfl, by omega, by omega, HY4, HU4, HO4, HB4⟩
      case measure => simp [intOf]; omega
    · obtain ⟨A4, c4, W4, hr, ho, hb⟩ := own_append_one HB3.out HO3.out y u HY.out (by have := HY.out; omega) hk
      have R := Lib.hid hr
      have HO4 := Lib.hid ho
      have HB4 := Lib.hid hb
      have HU4 : Hid (us ++ [u] = bs ++ Pk.put v) := by
        have e := HU.out
        rw [Pk.put_small (by have := HY.out; omega)] at e
        exact e
      have hm : y % 256 = y := by omega
      clear hr ho hb hk
      go_wp2_with (at_builtin; refine wpList_append_run rfl (.tmp 18) (.tmp 21) 25 rfl rfl rfl R.out ?_)
      go_ret
      exact ⟨_, _, _, rfl, HO4.out.same HU4.out, HB4.out⟩

/-- How many bytes Fix lays. -/
def fixMany (x : Int) : Nat := if 0 ≤ x ∧ x ≤ 8 then x.toNat else 0
theorem fixMany_yes {x : Int} (h : 0 ≤ x ∧ x ≤ 8) : fixMany x = x.toNat := if_pos h
theorem fixMany_no {x : Int} (h : ¬(0 ≤ x ∧ x ≤ 8)) : fixMany x = 0 := if_neg h
theorem fix_shift {x a : Int} {v : Nat} (HX : x = (v : Int)) (h0 : 0 ≤ a) : x / 2 ^ (8 * a).toNat = ((v / 256 ^ a.toNat : Nat) : Int) := by
  have e : (8 * a).toNat = 8 * a.toNat := by omega
  rw [HX, e, show (256 : Nat) = 2 ^ 8 by rfl, ← Nat.pow_mul]
  simp
theorem own_empty {base : Nat} (W : World) (hb : base ≤ W.heap.size) : Own (W.alloc (.cells #[] 5)) base (some ⟨W.heap.size, 0, none⟩) 0 0 [] :=
  ⟨World.ownsRow_lit W #[] 0 hb (by unfold maxLen; omega) (by simp), fun k => by simp⟩
set_option maxHeartbeats 1000000 in
theorem clone_any (A : Option Addr) (n c : Nat) (bs : List Nat) (w : World) (hn : n ≤ 900) (hA : Bytes w w.heap.size A n bs) :
    Calls Try.prog 47 #[.slice A n c] w (GivesBytes w bs) := by
  rcases A with _ | ad
  · have hn0 : bs = [] := by
      rcases Nat.eq_zero_or_pos n with h | h
      · exact List.eq_nil_of_length_eq_zero (hA.len.trans h)
      · obtain ⟨ad, h', _⟩ := hA.lies 0 h
        cases h'
    subst hn0
    clear hA
    have heq : ∀ W : World, (binOp .eql 25 (.slice none n c) (.slice none 0 0)).run Try.prog W = .ok (.bool true) W := fun W => Lib.run_eql_slice_nil W _ _ _ _ _ _ _ Try.underlying25
    go_enter Try.func47, Try.ntmps47
    go_wp2
    go_ret
    exact ⟨_, _, _, rfl, Own.none_, Below.refl _ _⟩
  · have hS := since_alloc (Below.refl w.heap.size w) (.cells #[] 5)
    obtain ⟨A2, c2, W2, hr, ho, hb⟩ := own_append (c' := c) hS (own_empty w (Nat.le_refl _)) (hA.since hS) (by omega)
    rw [Nat.zero_add] at hr ho
    rw [List.nil_append] at ho
    have R := Lib.hid hr
    have HO := Lib.hid ho
    have HB := Lib.hid hb
    clear hr ho hb hA hS
    have heq : ∀ W : World, (binOp .eql 25 (.slice (some ad) n c) (.slice none 0 0)).run Try.prog W = .ok (.bool false) W := fun W => Lib.run_eql_slice_nil W _ _ _ _ _ _ _ Try.underlying25
    go_enter Try.func47, Try.ntmps47
    go_wp2_with (at_builtin; refine wpList_append_run rfl (.tmp 5) (.tmp 6) 25 rfl rfl rfl R.out ?_)
    go_ret
    exact ⟨_, _, _, rfl, HO.out, HB.out⟩

/-- What Get and Unfix leave. -/
def Got (w : World) : Option (Nat × List Nat) → Ending → World → Prop
  | none, e, w' => e = .returned (.tuple #[.int .u64 0, .slice none 0 0, .bool false]) ∧ Hid (Below w.heap.size w w')
  | some (v, r), e, w' => ∃ (y : Int) (A : Option Addr) (n c : Nat), e = .returned (.tuple #[.int .u64 y, .slice A n c, .bool true]) ∧ Hid (y = (v : Int)) ∧ 0 ≤ y ∧ y ≤ 18446744073709551615 ∧ n ≤ 900 ∧ Hid (Own w' w.heap.size A n c r) ∧ Hid (Below w.heap.size w w')
theorem drop_cons {bs : List Nat} {k : Nat} (h : k < bs.length) : bs.drop k = bs.getD k 0 :: bs.drop (k + 1) := by
  rw [List.drop_eq_getElem_cons h, List.getD_eq_getElem?_getD, List.getElem?_eq_getElem h]; rfl
theorem andNot128 {z : Int} {b : Nat} (HZ : (b : Int) = z) (hb : b < 256) : bits .andNot .u8 z 128 = ((b % 128 : Nat) : Int) := by
  rw [← HZ, show (128 : Int) = ((128 : Nat) : Int) by rfl, u8_andNot_nat b 128 hb (by omega)]
  exact congrArg _ (nat_mask7 b)
theorem wrap_lit {d : Int} (h0 : 0 ≤ d) (h1 : d < 18446744073709551616) : IntKind.u64.wrap d = d := by rw [IntKind.wrap_u64]; omega
theorem pow128 (k : Nat) : (2 : Int) ^ (7 * k) = ((128 ^ k : Nat) : Int) := by
  rw [show (128 : Nat) = 2 ^ 7 by rfl, ← Nat.pow_mul]; simp
theorem or_step {y d : Int} {u b k : Nat} (HY : y = (u : Int)) (HD : d = ((b % 128 : Nat) : Int)) (hu : u < 128 ^ k) (hk : k ≤ 9) (h9 : ¬(k = 9 ∧ 1 < b)) :
    bits .or .u64 y (IntKind.u64.wrap (IntKind.u64.wrap d * 2 ^ (7 * k))) = ((u + b % 128 * 128 ^ k : Nat) : Int) ∧ u + b % 128 * 128 ^ k < 18446744073709551616 := by
  have hlt : b % 128 * 128 ^ k + 128 ^ k ≤ 18446744073709551616 := by
    rcases (by omega : k ≤ 8 ∨ k = 9) with h | rfl
    · have e : b % 128 * 128 ^ k + 128 ^ k = (b % 128 + 1) * 128 ^ k := by rw [Nat.add_mul, Nat.one_mul]
      rw [e]
      have h1 : (b % 128 + 1) * 128 ^ k ≤ 128 * 128 ^ 8 := Nat.mul_le_mul (by omega) (Nat.pow_le_pow_right (by omega) h)
      exact Nat.le_trans h1 (by decide)
    · rw [Pk.pow9]; omega
  have hs : u + b % 128 * 128 ^ k < 18446744073709551616 := by omega
  refine ⟨?_, hs⟩
  have e1 : IntKind.u64.wrap d = d := wrap_lit (by omega) (by omega)
  have e2 : d * 2 ^ (7 * k) = ((b % 128 * 128 ^ k : Nat) : Int) := by rw [HD, pow128]; simp
  rw [e1, e2, wrap_lit (Int.natCast_nonneg _) (by omega), HY, u64_or_nat _ _ (by omega) (by omega), Nat.or_comm]
  congr 1
  have hj := nat_join (7 * k) (b % 128 * 128 ^ k) u (by rw [show (128 : Nat) ^ k = 2 ^ (7 * k) by rw [Nat.pow_mul]]; exact Nat.mul_mod_left _ _) (by rw [show (2 : Nat) ^ (7 * k) = 128 ^ k by rw [Nat.pow_mul]]; exact hu)
  omega
theorem step_lt {u b k : Nat} (hu : u < 128 ^ k) : u + b % 128 * 128 ^ k < 128 ^ (k + 1) := by
  rw [Nat.pow_succ, Nat.mul_comm (128 ^ k) 128]
  have h1 : (b % 128 + 1) * 128 ^ k ≤ 128 * 128 ^ k := Nat.mul_le_mul_right _ (by omega)
  rw [Nat.add_mul, Nat.one_mul] at h1
  omega
set_option maxHeartbeats 2000000 in
theorem get_any (A : Option Addr) (n c : Nat) (bs : List Nat) (w : World) (hn : n ≤ 900) (hc : n ≤ c) (hA : Bytes w w.heap.size A n bs) :
    Calls Try.prog 46 #[.slice A n c] w (Got w (Pk.get 0 0 bs)) := by
  have HA := Lib.hid hA
  clear hA
  go_enter Try.func46, Try.ntmps46
  go_wp2_with fail
  go_loop [5, 10] (fun t5 t10 => ∃ (k u : Nat) (y : Int), t5 = .int .u64 y ∧ t10 = .int .i64 k ∧ k ≤ n ∧ k ≤ 9 ∧ 0 ≤ y ∧ y ≤ 18446744073709551615 ∧ Hid (y = (u : Int)) ∧ Hid (u < 128 ^ k) ∧ Hid (Pk.get 0 0 bs = Pk.get k u (bs.drop k))) (fun _ t10 => n - (intOf t10).toNat)
  case atStart => exact ⟨0, 0, 0, rfl, rfl, by omega, by omega, by omega, by omega, rfl, by show 0 < 128 ^ 0; decide, by show _ = _; rw [List.drop_zero]⟩
  case round =>
    obtain ⟨k, u, y, rfl, rfl, hk, hk9, hy0, hy1, HY, HU, HG⟩ := hrel
    by_cases hlt : k < n
    · obtain ⟨ad, hA, hblk, hcell⟩ := HA.out.at_ hlt
      have hsm := HA.out.small k
      have hdr := drop_cons (bs := bs) (k := k) (by rw [HA.out.len]; exact hlt)
      obtain ⟨b, HBB⟩ : ∃ b : Nat, Hid (bs.getD k 0 = b) := ⟨_, rfl⟩
      rw [HBB.out] at hcell hsm hdr
      obtain ⟨z, hz0, hz1, HZ⟩ : ∃ z : Int, 0 ≤ z ∧ z ≤ 255 ∧ Hid ((b : Int) = z) := ⟨_, by omega, by omega, rfl⟩
      rw [HZ.out] at hcell
      subst hA
      have HDR := Lib.hid hdr
      obtain ⟨d, hd, HD⟩ : ∃ d : Int, bits .andNot .u8 z 128 = d ∧ Hid (d = ((b % 128 : Nat) : Int)) := ⟨_, rfl, andNot128 HZ.out hsm⟩
      clear hdr hsm
      by_cases hov : k = 9 ∧ 1 < z
      · obtain ⟨h9, hz⟩ := hov
        have b9 : ((k : Int) == 9) = true := by simp; omega
        have HN : Hid (Pk.get 0 0 bs = none) := by
          show _ = _
          rw [HG.out, HDR.out, Pk.get_over h9 (by have := HZ.out; omega)]
        clear hd h9
        go_wp2_with fail
        go_ret3
        rw [HN.out]
        exact ⟨rfl, Below.refl _ _⟩
      · have HOV : Hid (¬(k = 9 ∧ 1 < b)) := fun h => hov ⟨h.1, by have := HZ.out; omega⟩
        obtain ⟨hor, hor2⟩ := or_step HY.out HD.out HU.out hk9 HOV.out
        obtain ⟨p, HP⟩ : ∃ p : Int, Hid (p = ((u + b % 128 * 128 ^ k : Nat) : Int)) := ⟨_, rfl⟩
        have hp0 : 0 ≤ p := by rw [HP.out]; exact Int.natCast_nonneg _
        have hp1 : p ≤ 18446744073709551615 := by rw [HP.out]; omega
        rw [← HP.out] at hor
        have HOR := Lib.hid hor
        have HOVZ := Lib.hid hov
        clear hor hor2 hov
        by_cases h128 : 128 ≤ z
        · have hk8 : ¬ k = 9 := fun h => HOVZ.out ⟨h, by omega⟩
          have b9 : ((k : Int) == 9) = false := by simp; omega
          have HG2 : Hid (Pk.get 0 0 bs = Pk.get (k + 1) (u + b % 128 * 128 ^ k) (bs.drop (k + 1))) := by
            show _ = _
            rw [HG.out, HDR.out, Pk.get_on HOV.out (by have := HZ.out; omega)]
          have HU2 := Lib.hid (step_lt (b := b) HU.out)
          have hk8' : k + 1 ≤ 9 := by omega
          clear hk8
          go_wp2_with (simp only [HOR.out])
          refine ⟨⟨k + 1, _, p, rfl, by go_num, by omega, hk8', hp0, hp1, HP, HU2, HG2⟩, by simp [intOf]; omega⟩
        · by_cases hzero : z = 0 ∧ 0 < k
          · obtain ⟨hz, hk0⟩ := hzero
            have HN : Hid (Pk.get 0 0 bs = none) := by
              show _ = _
              have e : b = 0 := by have := HZ.out; omega
              rw [HG.out, HDR.out, e, Pk.get_zero hk0]
            subst hz
            rcases hB : ((k : Int) == 9)
            all_goals
              go_wp2_with (simp only [HOR.out])
              go_ret3
              rw [HN.out]
              exact ⟨rfl, Below.refl _ _⟩
          · have HZR : Hid (¬(b = 0 ∧ 0 < k)) := fun h => hzero ⟨by have := HZ.out; omega, h.2⟩
            have HG2 : Hid (Pk.get 0 0 bs = some (u + b % 128 * 128 ^ k, bs.drop (k + 1))) := by
              show _ = _
              have hb := HZ.out
              rw [HG.out, HDR.out, Pk.get_end HOV.out (by omega) HZR.out, Nat.mod_eq_of_lt (show b < 128 by omega)]
            have hk1 : k + 1 ≤ n := by omega
            have hsl : ∀ W : World, (Instr.slice 25 (.slice (some ad) n c) (some (.int .i64 ((k : Int) + 1))) none none).run Try.prog W = .ok (.slice (if c = k + 1 then some ad else (some ad).map (·.add ((k + 1) * 1))) (n - (k + 1)) (c - (k + 1))) W := fun W => by
              have := slice_from (some ad) n c (k + 1) hk1 W
              rwa [show ((k + 1 : Nat) : Int) = (k : Int) + 1 by omega] at this
            obtain ⟨A5, HA5⟩ : ∃ A5 : Option Addr, Hid (A5 = if c = k + 1 then some ad else (some ad).map (·.add ((k + 1) * 1))) := ⟨_, rfl⟩
            rw [← HA5.out] at hsl
            have HB5 : Hid (Bytes w w.heap.size A5 (n - (k + 1)) (bs.drop (k + 1))) := by
              rw [HA5.out]; exact HA.out.rest hk1 hc
            have H9 : Hid (((k : Int) == 9) = true → ¬ 1 < z) := fun h hz => HOVZ.out ⟨by simp at h; omega, hz⟩
            have H0 : Hid ((z == 0) = true → ¬ (0 : Int) < k) := fun h hz => hzero ⟨by simpa using h, by omega⟩
            clear hzero
            rcases hB : ((k : Int) == 9)
            all_goals
              rcases hZ0 : (z == 0)
            case' false.true => have hkk := H0.out hZ0
            case' true.true => (have hkk := H0.out hZ0; have h1z := H9.out hB)
            case' true.false => have h1z := H9.out hB
            all_goals
              go_wp2_with (simp only [HOR.out])
              refine (clone_any A5 _ (c - (k + 1)) _ _ (by omega) HB5.out).mono ?_
              rintro e W1 ⟨A6, n6, c6, rfl, ho, hb⟩
              go_wp2_with fail
              go_ret3
              rw [HG2.out]
              have hl := ho.len
              exact ⟨p, A6, n6, c6, rfl, HP, hp0, hp1, by rw [List.length_drop, HA.out.len] at hl; omega, ho, hb⟩
    · have HN : Hid (Pk.get 0 0 bs = none) := by
        show _ = _
        rw [HG.out, List.drop_eq_nil_of_le (by rw [HA.out.len]; omega), Pk.get_nil]
      go_wp2_with fail
      go_ret3
      rw [HN.out]
      exact ⟨rfl, Below.refl _ _⟩
end Go.Proofs.Ytaocppgekinocaa
