/- The document's own Put, Fix, Unfix: the same answers. Conditions: the slices' cells; at most 900 bytes. -/
import Derived.Test.YticjdjffmagdkaaDoorPackUnfix
set_option linter.unusedVariables false
set_option linter.unusedSimpArgs false
namespace Go.Proofs.YticjdjffmagdkaaDoor
open Go.RowKit

set_option maxHeartbeats 1000000 in
theorem reffix_any (A : Option Addr) (n c : Nat) (bs : List Nat) (x m : Int) (v : Nat) (w : World) (h0 : 0 ≤ x) (h1 : x ≤ 18446744073709551615) (HX : Hid (x = (v : Int))) (hn : n ≤ 900) (hA : Bytes w w.heap.size A n bs) (hm0 : -9223372036854775808 ≤ m) (hm1 : m ≤ 9223372036854775807) :
    Calls Tryd.prog 26 #[.slice A n c, .int .u64 x, .int .i64 m] w (GivesBytes w (bs ++ Pk.fix v (fixMany m))) := by
  have hlen := hA.len
  obtain ⟨A1, c1, W1, hr1, ho1, hb1⟩ := own_append (c' := c) (Below.refl w.heap.size w) Own.none_ hA (by omega)
  rw [Nat.zero_add] at hr1 ho1
  rw [List.nil_append] at ho1
  have R1 := Lib.hid hr1
  have HO := Lib.hid ho1
  have HB := Lib.hid hb1
  have HLEN := Lib.hid hlen
  clear hA hlen hr1 ho1 hb1
  by_cases hneg : m < 0
  · rw [fixMany_no (by omega), Pk.fix, List.append_nil]
    go_enter Tryd.func26, Tryd.ntmps26
    go_wp2_with (at_builtin; refine wpList_append_run rfl (.const (.slice none 0 0)) (.tmp 9) 22 rfl rfl rfl R1.out ?_)
    go_ret
    exact ⟨_, _, _, rfl, HO.out, HB.out⟩
  · by_cases hbig : 8 < m
    · rw [fixMany_no (by omega), Pk.fix, List.append_nil]
      go_enter Tryd.func26, Tryd.ntmps26
      go_wp2_with (at_builtin; refine wpList_append_run rfl (.const (.slice none 0 0)) (.tmp 9) 22 rfl rfl rfl R1.out ?_)
      go_ret
      exact ⟨_, _, _, rfl, HO.out, HB.out⟩
    · rw [fixMany_yes (by omega)]
      obtain ⟨N, hN0, HN⟩ : ∃ N : Nat, N ≤ 910 ∧ Hid ((bs ++ Pk.fix v m.toNat).length = N) := ⟨_, by rw [List.length_append, Pk.fix_len, HLEN.out]; omega, rfl⟩
      go_enter Tryd.func26, Tryd.ntmps26
      go_wp2_with (at_builtin; refine wpList_append_run rfl (.const (.slice none 0 0)) (.tmp 9) 22 rfl rfl rfl R1.out ?_)
      clear R1
      go_loopw [7, 8] (fun t7 t8 wr => ∃ (A : Option Addr) (k c : Nat) (us : List Nat) (a : Int), t7 = .slice A k c ∧ t8 = .int .i64 a ∧ -1 ≤ a ∧ a ≤ 7 ∧ Hid (us ++ Pk.fix v (a + 1).toNat = bs ++ Pk.fix v m.toNat) ∧ Hid (Own wr w.heap.size A k c us) ∧ Hid (Below w.heap.size w wr)) (fun _ t8 _ => (intOf t8 + 1).toNat)
      case atStart => exact ⟨A1, n, c1, bs, m - 1, rfl, by go_num, by omega, by omega, by rw [show m - 1 + 1 = m by omega]; rfl, HO, HB⟩
      case round =>
        obtain ⟨A3, k, c3, us, a, rfl, rfl, ha0, ha1, HU, HO3, HB3⟩ := hrel
        by_cases hlt : 0 ≤ a
        · have hk : k + 1 ≤ 1000 := by
            have e := congrArg List.length HU.out
            rw [HN.out, List.length_append, HO3.out.len, Pk.fix_len] at e
            omega
          have hs := fix_shift HX.out hlt
          obtain ⟨q, HQ⟩ : ∃ q : Int, Hid (q = ((v / 256 ^ a.toNat : Nat) : Int)) := ⟨_, rfl⟩
          rw [← HQ.out] at hs
          have hq0 : 0 ≤ q := by rw [HQ.out]; exact Int.natCast_nonneg _
          have hq1 : q ≤ 18446744073709551615 := by
            have h : v / 256 ^ a.toNat ≤ v := Nat.div_le_self _ _
            have := HX.out
            rw [HQ.out]; omega
          obtain ⟨z, hz, HZ⟩ : ∃ z : Int, q % 256 = z ∧ Hid (z = ((v / 256 ^ a.toNat % 256 : Nat) : Int)) := ⟨_, rfl, by rw [HQ.out]; show _ = _; omega⟩
          obtain ⟨A4, c4, W4, hr, ho, hb⟩ := own_append_one HB3.out HO3.out z _ HZ.out (by omega) hk
          have R := Lib.hid hr
          have HO4 := Lib.hid ho
          have HB4 := Lib.hid hb
          have HU4 : Hid ((us ++ [v / 256 ^ a.toNat % 256]) ++ Pk.fix v (a - 1 + 1).toNat = bs ++ Pk.fix v m.toNat) := by
            have e := HU.out
            rw [show (a + 1).toNat = (a - 1 + 1).toNat + 1 by omega] at e
            rw [List.append_assoc]
            have e2 : (a - 1 + 1).toNat = a.toNat := by omega
            rw [e2] at e ⊢
            exact e
          have HS := Lib.hid hs
          clear hr ho hb hk hs
          go_wp2_with (first | (simp only [HS.out]) | (at_builtin; refine wpList_append_run rfl (.tmp 24) (.tmp 30) 22 rfl rfl rfl R.out ?_))
          go_roundw
          case rel => exact ⟨_, _, _, _, a - 1, rfl, by go_num, by omega, by omega, HU4, HO4, HB4⟩
          case measure => simp [intOf]; omega
        · have ha : a = -1 := by omega
          subst ha
          have HU4 : Hid (us = bs ++ Pk.fix v m.toNat) := by
            have e := HU.out
            simp [Pk.fix] at e
            exact e
          go_wp2_with fail
          go_ret
          exact ⟨_, _, _, rfl, HO3.out.same HU4.out, HB3.out⟩
set_option maxHeartbeats 2000000 in
theorem refunfix_yes (A : Option Addr) (n c k : Nat) (bs : List Nat) (w : World) (hn : n ≤ 900) (hc : n ≤ c) (hk8 : k ≤ 8) (hkn : k ≤ n) (hA : Bytes w w.heap.size A n bs) :
    Calls Tryd.prog 33 #[.slice A n c, .int .i64 (k : Int)] w (Got w (unfixO bs n k)) := by
  have HA := Lib.hid hA
  have hs2 := slice_from A n c k hkn
  obtain ⟨A5, HA5⟩ : ∃ A5 : Option Addr, Hid (A5 = if c = k then A else A.map (·.add (k * 1))) := ⟨_, rfl⟩
  rw [← HA5.out] at hs2
  have hB5 : Bytes w w.heap.size A5 (n - k) (bs.drop k) := by
    rw [HA5.out]; exact hA.rest hkn hc
  obtain ⟨A6, c6, W6, hr6, ho6, hb6⟩ := own_append (c' := c - k) (Below.refl w.heap.size w) Own.none_ hB5 (by omega)
  rw [Nat.zero_add] at hr6 ho6
  rw [List.nil_append] at ho6
  have R6 := Lib.hid hr6
  have HO6 := Lib.hid ho6
  have HB6 := Lib.hid hb6
  clear hA hr6 ho6 hb6 hB5
  go_enter Tryd.func33, Tryd.ntmps33
  go_wp2_with fail
  go_loop [7, 8] (fun t7 t8 => ∃ (j u : Nat) (y : Int), t7 = .int .u64 y ∧ t8 = .int .i64 j ∧ j ≤ k ∧ 0 ≤ y ∧ y ≤ 18446744073709551615 ∧ Hid (y = (u : Int)) ∧ Hid (u < 256 ^ j) ∧ Hid (u = Pk.unfix (bs.take j))) (fun _ t8 => k - (intOf t8).toNat)
  case atStart => exact ⟨0, 0, 0, rfl, rfl, by omega, by omega, by omega, rfl, by show 0 < 256 ^ 0; decide, by show _ = _; rw [List.take_zero]; rfl⟩
  case round =>
    obtain ⟨j, u, y, rfl, rfl, hj, hy0, hy1, HY, HU, HG⟩ := hrel
    by_cases hlt : j < k
    · obtain ⟨ad, hA, hblk, hcell⟩ := HA.out.at_ (show j < n by omega)
      have hsm := HA.out.small j
      have htk := take_succ_getD (bs := bs) (k := j) (by rw [HA.out.len]; omega)
      obtain ⟨b, HBB⟩ : ∃ b : Nat, Hid (bs.getD j 0 = b) := ⟨_, rfl⟩
      rw [HBB.out] at hcell hsm htk
      obtain ⟨z, hz0, hz1, HZ⟩ : ∃ z : Int, 0 ≤ z ∧ z ≤ 255 ∧ Hid ((b : Int) = z) := ⟨_, by omega, by omega, rfl⟩
      rw [HZ.out] at hcell
      subst hA
      obtain ⟨hor, hor2⟩ := or_byte HY.out HZ.out HU.out (by omega) hsm
      obtain ⟨p, HP⟩ : ∃ p : Int, Hid (p = ((u * 256 + b : Nat) : Int)) := ⟨_, rfl⟩
      have hp0 : 0 ≤ p := by rw [HP.out]; exact Int.natCast_nonneg _
      have hp1 : p ≤ 18446744073709551615 := by rw [HP.out]; omega
      rw [← HP.out] at hor
      have HOR := Lib.hid hor
      have HU2 : Hid (u * 256 + b < 256 ^ (j + 1)) := by
        have := HU.out
        show _ < _
        rw [Nat.pow_succ]; omega
      have HG2 : Hid (u * 256 + b = Pk.unfix (bs.take (j + 1))) := by
        show _ = _
        rw [htk, Pk.unfix_snoc, ← HG.out]
      have i0 : (0 : Int) ≤ (j : Int) := by omega
      have i1 : (j : Int) < (n : Int) := by omega
      clear hor hor2 hsm htk
      go_wp2_with (simp only [HOR.out])
      go_round
      case rel => exact ⟨j + 1, _, p, rfl, by go_num, by omega, hp0, hp1, HP, HU2, HG2⟩
      case measure => simp [intOf]; omega
    · have HJ : Hid (j = k) := by show j = k; omega
      go_wp2_with (at_builtin; refine wpList_append_run rfl (.const (.slice none 0 0)) (.tmp 37) 22 rfl rfl rfl R6.out ?_)
      go_ret3
      rw [unfixO_yes hk8 hkn]
      exact ⟨y, A6, _, c6, rfl, by rw [← HJ.out, ← HG.out]; exact HY, hy0, hy1, by omega, HO6, HB6⟩
set_option maxHeartbeats 1000000 in
theorem refunfix_no (A : Option Addr) (n c : Nat) (m : Int) (bs : List Nat) (w : World) (h : ¬(0 ≤ m ∧ m ≤ 8 ∧ m ≤ n)) :
    Calls Tryd.prog 33 #[.slice A n c, .int .i64 m] w (Got w (unfixO bs n m)) := by
  rw [unfixO_no h]
  by_cases h1 : m < 0
  · clear h
    go_enter Tryd.func33, Tryd.ntmps33
    go_wp2_with fail
    go_ret3
    exact ⟨rfl, Below.refl _ _⟩
  · by_cases h2 : 8 < m
    · clear h
      go_enter Tryd.func33, Tryd.ntmps33
      go_wp2_with fail
      go_ret3
      exact ⟨rfl, Below.refl _ _⟩
    · have h3 : (n : Int) < m := by omega
      clear h
      go_enter Tryd.func33, Tryd.ntmps33
      go_wp2_with fail
      go_ret3
      exact ⟨rfl, Below.refl _ _⟩
theorem refunfix_any (A : Option Addr) (n c : Nat) (m : Int) (bs : List Nat) (w : World) (hn : n ≤ 900) (hc : n ≤ c) (hA : Bytes w w.heap.size A n bs) :
    Calls Tryd.prog 33 #[.slice A n c, .int .i64 m] w (Got w (unfixO bs n m)) := by
  by_cases h : 0 ≤ m ∧ m ≤ 8 ∧ m ≤ n
  · obtain ⟨k, rfl⟩ := Int.eq_ofNat_of_zero_le h.1
    exact refunfix_yes A n c k bs w hn hc (by omega) (by omega) hA
  · exact refunfix_no A n c m bs w h
end Go.Proofs.YticjdjffmagdkaaDoor
