/- The document's own Put, Fix, Unfix: the same answers. Conditions: the slices' cells; at most 900 bytes. -/
import Derived.Test.YtopfdeihjjikiaaPackUnfix
set_option linter.unusedVariables false
set_option linter.unusedSimpArgs false
namespace Go.Proofs.Ytopfdeihjjikiaa
open Go.RowKit

set_option maxHeartbeats 1000000 in
theorem reffix_any (A : Option Addr) (n c : Nat) (bs : List Nat) (x m : Int) (v : Nat) (w : World) (h0 : 0 ≤ x) (h1 : x ≤ 18446744073709551615) (HX : Hid (x = (v : Int))) (hn : n ≤ 900) (hA : Bytes w w.heap.size A n bs) (hm0 : -9223372036854775808 ≤ m) (hm1 : m ≤ 9223372036854775807) :
    Calls Try.prog 38 #[.slice A n c, .int .u64 x, .int .i64 m] w (GivesBytes w (bs ++ Pk.fix v (fixMany m))) := by
  have hlen := hA.len
  obtain ⟨A1, c1, W1, hr1, ho1, hb1⟩ := own_append (c' := c) (Below.refl w.heap.size w) Own.none_ hA (by omega)
  rw [Nat.zero_add] at hr1 ho1
  rw [List.nil_append] at ho1
  have R1 := Lib.hid hr1
  have HO := Lib.hid ho1
  have HB := Lib.hid hb1
  have HLEN := Lib.hid hlen
  clear hA hlen hr1 ho1 hb1
  by_cases hneg : m < 0
  · rw [fixMany_no (by omega), Pk.fix, List.append_nil]
    go_enter Try.func38, Try.ntmps38
    go_wp2_with (at_builtin; refine wpList_append_run rfl (.const (.slice none 0 0)) (.tmp 9) 38 rfl rfl rfl R1.out ?_)
    go_ret
    exact ⟨_, _, _, rfl, HO.out, HB.out⟩
  · by_cases hbig : 8 < m
    · rw [fixMany_no (by omega), Pk.fix, List.append_nil]
      go_enter Try.func38, Try.ntmps38
      go_wp2_with (at_builtin; refine wpList_append_run rfl (.const (.slice none 0 0)) (.tmp 9) 38 rfl rfl rfl R1.out ?_)
      go_ret
      exact ⟨_, _, _, rfl, HO.out, HB.out⟩
    · rw [fixMany_yes (by omega)]
      obtain ⟨N, hN0, HN⟩ : ∃ N : Nat, N ≤ 910 ∧ Hid ((bs ++ Pk.fix v m.toNat).length = N) := ⟨_, by rw [List.length_append, Pk.fix_len, HLEN.out]; omega, rfl⟩
      go_enter Try.func38, Try.ntmps38
      go_wp2_with (at_builtin; refine wpList_append_run rfl (.const (.slice none 0 0)) (.tmp 9) 38 rfl rfl rfl R1.out ?_)
      clear R1
      go_loopw [7, 8] (fun t7 t8 wr => ∃ (A : Option Addr) (k c : Nat) (us : List Nat) (a : Int), t7 = .slice A k c ∧ t8 = .int .i64 a ∧ -1 ≤ a ∧ a ≤ 7 ∧ Hid (us ++ Pk.fix v (a + 1).toNat = bs ++ Pk.fix v m.toNat) ∧ Hid (Own wr w.heap.size A k c us) ∧ Hid (Below w.heap.size w wr)) (fun _ t8 _ => (intOf t8 + 1).toNat)
      case atStart => exact ⟨A1, n, c1, bs, m - 1, rfl, by go_num, by omega, by omega, by rw [show m - 1 + 1 = m by omega]; rfl, HO, HB⟩
      case round =>
        obtain ⟨A3, k, c3, us, a, rfl, rfl, ha0, ha1, HU, HO3, HB3⟩ := hrel
        by_cases hlt : 0 ≤ a
        · have hk : k + 1 ≤ 8000 := by
            have e := congrArg List.length HU.out
            rw [HN.out, List.length_append, HO3.out.len, Pk.fix_len] at e
            omega
          have hs := fix_shift HX.out hlt
          obtain ⟨q, HQ⟩ : ∃ q : Int, Hid (q = ((v / 256 ^ a.toNat : Nat) : Int)) := ⟨_, rfl⟩
          rw [← HQ.out] at hs
          have hq0 : 0 ≤ q := by rw [HQ.out]; exact Int.natCast_nonneg _
          have hq1 : q ≤ 18446744073709551615 := by
            have h : v / 256 ^ a.toNat ≤ v := Nat.div_le_self _ _
            have := HX.out
            rw [HQ.out]; omega
          obtain ⟨z, hz, HZ⟩ : ∃ z : Int, q % 256 = z ∧ Hid (z = ((v / 256 ^ a.toNat % 256 : Nat) : Int)) := ⟨_, rfl, by rw [HQ.out]; show _ = _; omega⟩
          obtain ⟨A4, c4, W4, hr, ho, hb⟩ := own_append_one HB3.out HO3.out z _ HZ.out (by omega) hk
          have R := Lib.hid hr
          have HO4 := Lib.hid ho
          have HB4 := Lib.hid hb
          have HU4 : Hid ((us ++ [v / 256 ^ a.toNat % 256]) ++ Pk.fix v (a - 1 + 1).toNat = bs ++ Pk.fix v m.toNat) := by
            have e := HU.out
            rw [show (a + 1).toNat = (a - 1 + 1).toNat + 1 by omega] at e
            rw [List.append_assoc]
            have e2 : (a - 1 + 1).toNat = a.toNat := by omega
            rw [e2] at e ⊢
            exact e
          have HS := Lib.hid hs
          clear hr ho hb hk hs
          go_wp2_with (first | (simp only [HS.out]) | (at_builtin; refine wpList_append_run rfl (.tmp 24) (.tmp 30) 38 rfl rfl rfl R.out ?_))
          go_roundw
          case rel => exact ⟨_, _, _, _, a - 1, rfl, by go_num, by omega, by omega, HU4, HO4, HB4⟩
          case measure => simp [intOf]; omega
        · have ha : a = -1 := by omega
          subst ha
          have HU4 : Hid (us = bs ++ Pk.fix v m.toNat) := by
            have e := HU.out
            simp [Pk.fix] at e
            exact e
          go_wp2_with fail
          go_ret
          exact ⟨_, _, _, rfl, HO3.out.same HU4.out, HB3.out⟩
end Go.Proofs.Ytopfdeihjjikiaa
