/- The document's own Put, Fix, Unfix: the same answers. Conditions: the slices' cells; at most 900 bytes. -/
import Derived.Test.YtaocppgekinocaaPackUnfix
set_option linter.unusedVariables false
set_option linter.unusedSimpArgs false
namespace Go.Proofs.Ytaocppgekinocaa
open Go.RowKit

set_option maxHeartbeats 1000000 in
theorem refput_any (A : Option Addr) (n c : Nat) (bs : List Nat) (x : Int) (v : Nat) (w : World) (h0 : 0 ≤ x) (h1 : x ≤ 18446744073709551615) (HX : Hid (x = (v : Int))) (hn : n ≤ 3000) (hA : Bytes w w.heap.size A n bs) :
    Calls Try.prog 41 #[.slice A n c, .int .u64 x] w (GivesBytes w (bs ++ Pk.put v)) := by
  have hlen := hA.len
  have h10 : (Pk.put v).length ≤ 10 := Pk.put_len10 (by have := HX.out; omega)
  obtain ⟨N, hN0, HN⟩ : ∃ N : Nat, N ≤ 3010 ∧ Hid ((bs ++ Pk.put v).length = N) := ⟨_, by rw [List.length_append]; omega, rfl⟩
  obtain ⟨A1, c1, W1, hr1, ho1, hb1⟩ := own_append (c' := c) (Below.refl w.heap.size w) Own.none_ hA (by omega)
  rw [Nat.zero_add] at hr1 ho1
  rw [List.nil_append] at ho1
  have R1 := Lib.hid hr1
  have HO := Lib.hid ho1
  have HB := Lib.hid hb1
  clear hA hlen h10 hr1 ho1 hb1
  go_enter Try.func41, Try.ntmps41
  go_wp2_with (at_builtin; refine wpList_append_run rfl (.const (.slice none 0 0)) (.tmp 6) 25 rfl rfl rfl R1.out ?_)
  clear R1
  go_loopw [1, 5] (fun t1 t5 wr => ∃ (A : Option Addr) (k c : Nat) (us : List Nat) (y : Int) (u : Nat), t5 = .slice A k c ∧ t1 = .int .u64 y ∧ 0 ≤ y ∧ y ≤ 18446744073709551615 ∧ Hid (y = (u : Int)) ∧ Hid (us ++ Pk.put u = bs ++ Pk.put v) ∧ Hid (Own wr w.heap.size A k c us) ∧ Hid (Below w.heap.size w wr)) (fun t1 _ _ => (intOf t1).toNat)
  case atStart => exact ⟨A1, n, c1, bs, x, v, rfl, rfl, h0, h1, HX, rfl, HO, HB⟩
  case round =>
    obtain ⟨A3, k, c3, us, y, u, rfl, rfl, hy0, hy1, HY, HU, HO3, HB3⟩ := hrel
    have hk : k + 1 ≤ 8000 := by
      have e := congrArg List.length HU.out
      rw [HN.out, List.length_append, HO3.out.len] at e
      have := Pk.put_pos u
      omega
    by_cases hlt : 128 ≤ y
    · have hz := or128 (b := 0) hy0 HY.out
      obtain ⟨z, HZ⟩ : ∃ z : Int, Hid (z = ((u % 128 + 128 : Nat) : Int)) := ⟨_, rfl⟩
      rw [← HZ.out] at hz
      obtain ⟨A4, c4, W4, hr, ho, hb⟩ := own_append_one HB3.out HO3.out z _ HZ.out (by omega) hk
      have R := Lib.hid hr
      have HO4 := Lib.hid ho
      have HB4 := Lib.hid hb
      have HU4 : Hid ((us ++ [u % 128 + 128]) ++ Pk.put (u / 128) = bs ++ Pk.put v) := by
        have e := HU.out
        rw [Pk.put_big (by have := HY.out; omega)] at e
        rw [List.append_assoc]; exact e
      have HY4 : Hid (y / 128 = ((u / 128 : Nat) : Int)) := by
        have e := HY.out
        show _ = _
        omega
      clear hr ho hb hk
      go_wp2_with (at_builtin; refine wpList_append_run rfl (.tmp 10) (.tmp 14) 25 rfl rfl rfl R.out ?_)
      go_roundw
      case rel => exact ⟨_, _, _, _, _, _, rfl, rfl, by omega, by omega, HY4, HU4, HO4, HB4⟩
      case measure => simp [intOf]; omega
    · obtain ⟨A4, c4, W4, hr, ho, hb⟩ := own_append_one HB3.out HO3.out y u HY.out (by have := HY.out; omega) hk
      have R := Lib.hid hr
      have HO4 := Lib.hid ho
      have HB4 := Lib.hid hb
      have HU4 : Hid (us ++ [u] = bs ++ Pk.put v) := by
        have e := HU.out
        rw [Pk.put_small (by have := HY.out; omega)] at e
        exact e
      have hm : y % 256 = y := by omega
      clear hr ho hb hk
      go_wp2_with (at_builtin; refine wpList_append_run rfl (.tmp 18) (.tmp 21) 25 rfl rfl rfl R.out ?_)
      go_ret
      exact ⟨_, _, _, rfl, HO4.out.same HU4.out, HB4.out⟩
end Go.Proofs.Ytaocppgekinocaa
