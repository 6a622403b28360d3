/- The contract of pack.Unfix. Conditions: the slice's cells; at most 900 bytes. -/
import Derived.Test.YtopfdeihjjikiaaPack
set_option linter.unusedVariables false
set_option linter.unusedSimpArgs false
namespace Go.Proofs.Ytopfdeihjjikiaa
open Go.RowKit

theorem or_byte {y z : Int} {u b j : Nat} (HY : y = (u : Int)) (HZ : (b : Int) = z) (hu : u < 256 ^ j) (hj : j ≤ 7) (hb : b < 256) :
    bits .or .u64 (IntKind.u64.wrap (y * 256)) z = ((u * 256 + b : Nat) : Int) ∧ u * 256 + b < 18446744073709551616 := by
  have h8 : u < 72057594037927936 := Nat.lt_of_lt_of_le hu (Nat.le_trans (Nat.pow_le_pow_right (by omega) hj) (by decide))
  refine ⟨?_, by omega⟩
  rw [wrap_lit (by omega) (by omega), HY, ← HZ, show ((u : Int) * 256) = ((u * 256 : Nat) : Int) by omega, u64_or_nat _ _ (by omega) (by omega)]
  congr 1
  exact nat_join 8 (u * 256) b (Nat.mul_mod_left _ _) hb
/-- What Unfix answers. -/
def unfixO (bs : List Nat) (n : Nat) (m : Int) : Option (Nat × List Nat) := if 0 ≤ m ∧ m ≤ 8 ∧ m ≤ n then some (Pk.unfix (bs.take m.toNat), bs.drop m.toNat) else none
theorem unfixO_yes {bs : List Nat} {n k : Nat} (hk : k ≤ 8) (hn : k ≤ n) : unfixO bs n (k : Int) = some (Pk.unfix (bs.take k), bs.drop k) := by
  unfold unfixO
  rw [if_pos (by omega), Int.toNat_natCast]
theorem unfixO_no {bs : List Nat} {n : Nat} {m : Int} (h : ¬(0 ≤ m ∧ m ≤ 8 ∧ m ≤ n)) : unfixO bs n m = none := if_neg h
theorem take_succ_getD {bs : List Nat} {k : Nat} (h : k < bs.length) : bs.take (k + 1) = bs.take k ++ [bs.getD k 0] := by
  rw [List.take_add_one, List.getD_eq_getElem?_getD, List.getElem?_eq_getElem h]; rfl
set_option maxHeartbeats 2000000 in
theorem unfix_yes (A : Option Addr) (n c k : Nat) (bs : List Nat) (w : World) (hn : n ≤ 900) (hc : n ≤ c) (hk8 : k ≤ 8) (hkn : k ≤ n) (hA : Bytes w w.heap.size A n bs) :
    Calls Try.prog 50 #[.slice A n c, .int .i64 (k : Int)] w (Got w (unfixO bs n k)) := by
  have HA := Lib.hid hA
  have hmay := may_any (k : Int) w
  rw [decide_eq_true (by omega)] at hmay
  have HM := Lib.hid hmay
  have hs1 := slice_to A n c k hkn hc
  have hs2 := slice_from A n c k hkn
  obtain ⟨A5, HA5⟩ : ∃ A5 : Option Addr, Hid (A5 = if c = k then A else A.map (·.add (k * 1))) := ⟨_, rfl⟩
  rw [← HA5.out] at hs2
  have HB5 : Hid (Bytes w w.heap.size A5 (n - k) (bs.drop k)) := by
    rw [HA5.out]; exact hA.rest hkn hc
  have HB4 : Hid (Bytes w w.heap.size A k (bs.take k)) := hA.first hkn
  clear hA hmay
  go_enter Try.func50, Try.ntmps50
  go_wp2_with fail
  refine HM.out.mono ?_
  rintro e w' ⟨rfl, rfl⟩
  go_wp2_with fail
  go_loop [7, 23] (fun t7 t23 => ∃ (j u : Nat) (y : Int), t7 = .int .u64 y ∧ t23 = .int .i64 j ∧ j ≤ k ∧ 0 ≤ y ∧ y ≤ 18446744073709551615 ∧ Hid (y = (u : Int)) ∧ Hid (u < 256 ^ j) ∧ Hid (u = Pk.unfix (bs.take j))) (fun _ t23 => k - (intOf t23).toNat)
  case atStart => exact ⟨0, 0, 0, rfl, rfl, by omega, by omega, by omega, rfl, by show 0 < 256 ^ 0; decide, by show _ = _; rw [List.take_zero]; rfl⟩
  case round =>
    obtain ⟨j, u, y, rfl, rfl, hj, hy0, hy1, HY, HU, HG⟩ := hrel
    by_cases hlt : j < k
    · obtain ⟨ad, hA, hblk, hcell⟩ := HB4.out.at_ hlt
      rw [getD_take _ _ _ hlt] at hcell
      have hsm := HA.out.small j
      have htk := take_succ_getD (bs := bs) (k := j) (by rw [HA.out.len]; omega)
      obtain ⟨b, HBB⟩ : ∃ b : Nat, Hid (bs.getD j 0 = b) := ⟨_, rfl⟩
      rw [HBB.out] at hcell hsm htk
      obtain ⟨z, hz0, hz1, HZ⟩ : ∃ z : Int, 0 ≤ z ∧ z ≤ 255 ∧ Hid ((b : Int) = z) := ⟨_, by omega, by omega, rfl⟩
      rw [HZ.out] at hcell
      subst hA
      obtain ⟨hor, hor2⟩ := or_byte HY.out HZ.out HU.out (by omega) hsm
      obtain ⟨p, HP⟩ : ∃ p : Int, Hid (p = ((u * 256 + b : Nat) : Int)) := ⟨_, rfl⟩
      have hp0 : 0 ≤ p := by rw [HP.out]; exact Int.natCast_nonneg _
      have hp1 : p ≤ 18446744073709551615 := by rw [HP.out]; omega
      rw [← HP.out] at hor
      have HOR := Lib.hid hor
      have HU2 : Hid (u * 256 + b < 256 ^ (j + 1)) := by
        have := HU.out
        show _ < _
        rw [Nat.pow_succ]; omega
      have HG2 : Hid (u * 256 + b = Pk.unfix (bs.take (j + 1))) := by
        show _ = _
        rw [htk, Pk.unfix_snoc, ← HG.out]
      clear hor hor2 hsm htk
      go_wp2_with (simp only [HOR.out])
      go_round
      case rel => exact ⟨j + 1, _, p, rfl, by go_num, by omega, hp0, hp1, HP, HU2, HG2⟩
      case measure => simp [intOf]; omega
    · have HJ : Hid (j = k) := by show j = k; omega
      go_wp2_with fail
      refine (clone_any A5 _ (c - k) _ _ (by omega) HB5.out).mono ?_
      rintro e W1 ⟨A6, n6, c6, rfl, ho, hb⟩
      go_wp2_with fail
      go_ret3
      rw [unfixO_yes hk8 hkn]
      have hl := ho.len
      exact ⟨y, A6, n6, c6, rfl, by rw [← HJ.out, ← HG.out]; exact HY, hy0, hy1, by rw [List.length_drop, HA.out.len] at hl; omega, ho, hb⟩
set_option maxHeartbeats 1000000 in
theorem unfix_no (A : Option Addr) (n c : Nat) (m : Int) (bs : List Nat) (w : World) (h : ¬(0 ≤ m ∧ m ≤ 8 ∧ m ≤ n)) :
    Calls Try.prog 50 #[.slice A n c, .int .i64 m] w (Got w (unfixO bs n m)) := by
  rw [unfixO_no h]
  have hmay := may_any m w
  by_cases hm : 0 ≤ m ∧ m ≤ 8
  · rw [decide_eq_true hm] at hmay
    have HM := Lib.hid hmay
    have h2 : ¬ m ≤ n := fun hh => h ⟨hm.1, hm.2, hh⟩
    obtain ⟨hm0, hm1⟩ := hm
    clear h hmay
    go_enter Try.func50, Try.ntmps50
    go_wp2_with fail
    refine HM.out.mono ?_
    rintro e w' ⟨rfl, rfl⟩
    go_wp2_with fail
    go_ret3
    exact ⟨rfl, Below.refl _ _⟩
  · rw [decide_eq_false hm] at hmay
    have HM := Lib.hid hmay
    clear h hmay hm
    go_enter Try.func50, Try.ntmps50
    go_wp2_with fail
    refine HM.out.mono ?_
    rintro e w' ⟨rfl, rfl⟩
    go_wp2_with fail
    go_ret3
    exact ⟨rfl, Below.refl _ _⟩
theorem unfix_any (A : Option Addr) (n c : Nat) (m : Int) (bs : List Nat) (w : World) (hn : n ≤ 900) (hc : n ≤ c) (hA : Bytes w w.heap.size A n bs) :
    Calls Try.prog 50 #[.slice A n c, .int .i64 m] w (Got w (unfixO bs n m)) := by
  by_cases h : 0 ≤ m ∧ m ≤ 8 ∧ m ≤ n
  · obtain ⟨k, rfl⟩ := Int.eq_ofNat_of_zero_le h.1
    exact unfix_yes A n c k bs w hn hc (by omega) (by omega) hA
  · exact unfix_no A n c m bs w h
end Go.Proofs.Ytopfdeihjjikiaa
