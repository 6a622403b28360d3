/- The contracts of the document's own More. Conditions: the slices' cells. -/
import Derived.Test.YticjdjffmagdkaaDoorSum
set_option linter.unusedVariables false
set_option linter.unusedSimpArgs false
namespace Go.Proofs.YticjdjffmagdkaaDoor
open Go.RowKit

def ones : Nat → BitVec 32 → BitVec 32
  | 0, r => r
  | k + 1, r => Crc.one (ones k r)
theorem ones_eight (r : BitVec 32) : ones 8 r = Crc.eight r := rfl
theorem one_odd {r : BitVec 32} (h : r.toNat % 2 = 1) : (Crc.one r).toNat = r.toNat / 2 ^^^ 2197175160 := by
  unfold Crc.one
  have hb : r.getLsbD 0 = true := by
    rw [BitVec.getLsbD, Nat.testBit_zero]; simpa using h
  rw [hb, if_pos rfl, BitVec.toNat_xor, BitVec.toNat_ushiftRight, Nat.shiftRight_eq_div_pow]
  rfl
theorem one_even' {r : BitVec 32} (h : r.toNat % 2 = 0) : (Crc.one r).toNat = r.toNat / 2 := by
  have hb : r.getLsbD 0 = false := by
    rw [BitVec.getLsbD, Nat.testBit_zero]; simpa using h
  rw [Crc.one_even hb, BitVec.toNat_ushiftRight, Nat.shiftRight_eq_div_pow]
theorem and_one {r : Int} {R : BitVec 32} (h : r = ((R.toNat : Nat) : Int)) : bits .and .u32 r 1 = ((R.toNat % 2 : Nat) : Int) := by
  rw [h]
  have := u32_and_nat R.toNat 1 R.isLt (by omega)
  rw [nat_mask1] at this
  exact this
theorem xor_poly {r : Int} {R : BitVec 32} (h : r = ((R.toNat : Nat) : Int)) (ho : R.toNat % 2 = 1) : bits .xor .u32 (r / 2) 2197175160 = (((Crc.one R).toNat : Nat) : Int) := by
  rw [one_odd ho, h, show ((R.toNat : Nat) : Int) / 2 = ((R.toNat / 2 : Nat) : Int) by omega]
  have hR := R.isLt
  exact u32_xor_nat (R.toNat / 2) 2197175160 (by omega) (by omega)
theorem xor_byte {r y : Int} {R : BitVec 32} {b : Nat} (h : r = ((R.toNat : Nat) : Int)) (hy : (b : Int) = y) (hb : b < 256) : bits .xor .u32 r y = (((R ^^^ BitVec.ofNat 32 b).toNat : Nat) : Int) := by
  rw [h, ← hy, u32_xor_nat _ _ R.isLt (by omega), BitVec.toNat_xor, BitVec.toNat_ofNat, Nat.mod_eq_of_lt (show b < 2 ^ 32 by omega)]

set_option maxHeartbeats 1000000 in
theorem ref_more (x : Int) (s : BitVec 32) (A : Option Addr) (n c : Nat) (bs : List Nat) (w : World) (h0 : 0 ≤ x) (h1 : x ≤ 4294967295) (HX : Hid (x = ((s.toNat : Nat) : Int))) (hn : n ≤ 9223372036854775807) (hA : Bytes w w.heap.size A n bs) :
    Calls Tryd.prog 27 #[.int .u32 x, .slice A n c] w fun e w' => e = .returned (.int .u32 ((Crc.more s bs).toNat : Int)) ∧ w = w' := by
  have HA := Lib.hid hA
  clear hA
  go_enter Tryd.func27, Tryd.ntmps27
  go_wp2
  go_loop [5, 6] (fun t5 t6 => ∃ (k : Nat) (r : Int), k ≤ n ∧ t6 = .int .i64 k ∧ t5 = .int .u32 r ∧ 0 ≤ r ∧ r ≤ 4294967295 ∧ Hid (r = (((Crc.reg (~~~ s) (bs.take k)).toNat : Nat) : Int))) (fun _ t6 => n - (intOf t6).toNat)
  case atStart =>
    have e := not_val s
    rw [← HX.out] at e
    exact ⟨0, _, Nat.zero_le _, rfl, rfl, by rw [e]; omega, by rw [e]; exact bv_le _, e⟩
  case round =>
    obtain ⟨k, r, hk, rfl, rfl, hr0, hr1, HR⟩ := hrel
    by_cases hlt : k < n
    · obtain ⟨ad, hA, hblk, hcell⟩ := HA.out.at_ hlt
      have hsm : bs.getD k 0 < 256 := HA.out.small k
      obtain ⟨y, hy0, hy1, HY⟩ : ∃ y : Int, 0 ≤ y ∧ y ≤ 255 ∧ Hid (((bs.getD k 0 : Nat) : Int) = y) := ⟨_, by omega, by omega, rfl⟩
      rw [HY.out] at hcell
      subst hA
      have hlen := HA.out.len
      obtain ⟨R0, HR0⟩ : ∃ R0 : BitVec 32, Hid (R0 = Crc.reg (~~~ s) (bs.take k) ^^^ BitVec.ofNat 32 (bs.getD k 0)) := ⟨_, rfl⟩
      have HN : Hid (Crc.reg (~~~ s) (bs.take (k + 1)) = ones 8 R0) := by
        rw [HR0.out, ones_eight, reg_snoc _ _ _ (by omega)]; rfl
      clear hlen
      obtain ⟨p, hp, hp0, hp1, HP⟩ : ∃ p : Int, bits .xor .u32 r y = p ∧ 0 ≤ p ∧ p ≤ 4294967295 ∧ Hid (p = ((R0.toNat : Nat) : Int)) := by
        have e := xor_byte HR.out HY.out hsm
        rw [← HR0.out] at e
        exact ⟨_, e, by omega, bv_le _, rfl⟩
      clear hsm
      go_wp2
      clear hp hcell
      go_loop [5, 7] (fun t5 t7 => ∃ (j : Nat) (u : Int), j ≤ 8 ∧ t7 = .int .i64 j ∧ t5 = .int .u32 u ∧ 0 ≤ u ∧ u ≤ 4294967295 ∧ Hid (u = (((ones j R0).toNat : Nat) : Int))) (fun _ t7 => 8 - (intOf t7).toNat)
      case atStart => exact ⟨0, p, Nat.zero_le _, rfl, rfl, hp0, hp1, HP⟩
      case round =>
        obtain ⟨j, u, hj, rfl, rfl, hu0, hu1, HU⟩ := hrel
        by_cases hj8 : j < 8
        · obtain ⟨q, hq⟩ : ∃ q : Int, bits .and .u32 u 1 = q := ⟨_, rfl⟩
          have hq' := and_one HU.out
          rw [hq] at hq'
          by_cases ho : (ones j R0).toNat % 2 = 1
          · have hx := xor_poly HU.out ho
            obtain ⟨v, HV⟩ : ∃ v : Int, Hid (bits .xor .u32 (u / 2) 2197175160 = v) := ⟨_, rfl⟩
            rw [ho] at hq'
            subst hq'
            have HX := Lib.hid hx
            clear hx ho
            go_wp2
            go_round
            case rel => exact ⟨j + 1, _, by omega, by go_num, rfl, by rw [HX.out]; omega, by rw [HX.out]; exact bv_le _, HX.out⟩
            case measure => simp [intOf]; omega
          · have he : (ones j R0).toNat % 2 = 0 := by omega
            have hx := one_even' he
            rw [he] at hq'
            subst hq'
            have HX : Hid (u / 2 = (((Crc.one (ones j R0)).toNat : Nat) : Int)) := by
              show u / 2 = _
              rw [hx, HU.out]; omega
            clear hx ho he
            go_wp2
            go_round
            case rel => exact ⟨j + 1, _, by omega, by go_num, rfl, by omega, by omega, HX.out⟩
            case measure => simp [intOf]; omega
        · have HJ : Hid (j = 8) := by show j = 8; omega
          go_wp2
          go_round
          case rel => exact ⟨k + 1, u, by omega, by go_num, rfl, hu0, hu1, by rw [HN.out, ← HJ.out]; exact HU⟩
          case measure => simp [intOf]; omega
    · have hlen := HA.out.len
      have ht : bs.take k = bs := List.take_of_length_le (by omega)
      rw [ht] at HR
      clear ht hlen
      have HV : Hid (bits .xor .u32 IntKind.u32.max r = ((Crc.more s bs).toNat : Int)) := by
        show bits .xor .u32 IntKind.u32.max r = _
        rw [HR.out]; exact not_val _
      go_wp2
      go_ret
      exact ⟨ret_int HV.out, rfl⟩

theorem refmore_since (x : Int) (s : BitVec 32) (A : Option Addr) (n c : Nat) (bs : List Nat) (w : World) (h0 : 0 ≤ x) (h1 : x ≤ 4294967295) (HX : Hid (x = ((s.toNat : Nat) : Int))) (hn : n ≤ 9223372036854775807) (hA : Bytes w w.heap.size A n bs) :
    Calls Tryd.prog 27 #[.int .u32 x, .slice A n c] w fun e w' => e = .returned (.int .u32 ((Crc.more s bs).toNat : Int)) ∧ Below w.heap.size w w' :=
  (ref_more x s A n c bs w h0 h1 HX hn hA).mono fun e w' ⟨he, hw⟩ => ⟨he, hw ▸ Below.refl _ _⟩
end Go.Proofs.YticjdjffmagdkaaDoor
