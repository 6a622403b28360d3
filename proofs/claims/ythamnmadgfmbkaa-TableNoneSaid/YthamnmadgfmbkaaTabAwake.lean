/- The statements' own awake: true. No conditions. -/
import Derived.Test.YthamnmadgfmbkaaTabTwo
import Derived.Test.YthamnmadgfmbkaaOps
import Derived.Test.YthamnmadgfmbkaaSays
set_option linter.unusedVariables false
set_option linter.unusedSimpArgs false
namespace Go.Proofs.Ythamnmadgfmbkaa
open Go.RowKit

theorem ewf_lit (a p s : Int) (d : Bool) (h : 0 ≤ a ∧ a ≤ 18446744073709551615 ∧ -9223372036854775808 ≤ p ∧ p ≤ 9223372036854775807 ∧ -9223372036854775808 ≤ s ∧ s ≤ 9223372036854775807) : EWf ⟨a, p, d, s⟩ := ⟨h.1, h.2.1, h.2.2.1, h.2.2.2.1, h.2.2.2.2.1, h.2.2.2.2.2⟩
set_option maxHeartbeats 8000000 in
theorem tawake_any (w : World) : Calls Try.prog 8 #[] w (SaysB w true) := by
  obtain ⟨l1, H1⟩ : ∃ l1, Hid (putT [] ⟨5, 1, true, 0⟩ = l1) := ⟨_, rfl⟩
  obtain ⟨l2, H2⟩ : ∃ l2, Hid (putT l1 ⟨5, 2, false, 0⟩ = l2) := ⟨_, rfl⟩
  have G1 : Hid (getT l1 5 = some ⟨5, 1, true, 0⟩) := by rw [← H1.out]; exact rfl
  have G2 : Hid (getT l2 5 = some ⟨5, 2, false, 0⟩) := by rw [← H2.out, ← H1.out]; exact rfl
  have N1 : Hid (l1.length < 120) := by rw [← H1.out]; exact (by decide : (1 : Nat) < 120)
  have N2 : Hid ((l2.length : Int) = 1) := by rw [← H2.out, ← H1.out]; exact rfl
  have D2 : Hid ((dirtyT l2 : Int) = 0) := by rw [← H2.out, ← H1.out]; exact rfl
  have F2 : Hid (fromT l2 6 9 false = []) := by rw [← H2.out, ← H1.out]; exact rfl
  go_enter Try.func8, Try.ntmps8
  go_wp2_with fail
  refine (tnew_any _).mono ?_
  rintro e W0 ⟨g, fp0, rfl, hc0, hb0⟩
  have C0 := Lib.hid hc0
  have S0 := Lib.hid hb0
  clear hc0 hb0
  go_wp2_with fail
  refine (tput_any ⟨5, 1, true, 0⟩ (ewf_lit _ _ _ _ (by omega)) C0.out (by decide)).mono ?_
  rw [H1.out, getT_nil]
  rintro e W1 ⟨fp1, rfl, hc1, hm1⟩
  have S1 := Lib.hid (hm1.below S0.out C0.out.ge S0.out.size)
  have C1 := Lib.hid hc1
  clear hc1 hm1 S0 C0
  rw [pairO_none]
  go_wp2_with fail
  obtain ⟨W2, HW2⟩ : ∃ W2, Hid (W2 = W1.alloc (.cells #[.int .u64 0, .int .i64 0, .bool false, .int .i64 0] 32)) := ⟨_, rfl⟩
  have L2 : Below W1.heap.size W1 W2 := by rw [HW2.out]; exact later_alloc _ _
  have C2 := Lib.hid (C1.out.since L2)
  have S2 := Lib.hid (below_chain S1.out L2)
  rw [← HW2.out]
  clear HW2 L2 C1 S1
  refine (tput_any ⟨5, 2, false, 0⟩ (ewf_lit _ _ _ _ (by omega)) C2.out N1.out).mono ?_
  rw [H2.out, G1.out]
  rintro e W3 ⟨fp3, rfl, hc3, hm3⟩
  have S3 := Lib.hid (hm3.below S2.out C2.out.ge S2.out.size)
  have C3 := Lib.hid hc3
  clear hc3 hm3 S2 C2
  rw [pairO_some]
  go_wp2_with fail
  obtain ⟨W4, HW4⟩ : ∃ W4, Hid (W4 = W3.alloc (.cells #[.int .u64 5, .int .i64 1, .bool true, .int .i64 0] 32)) := ⟨_, rfl⟩
  have L4 : Below W3.heap.size W3 W4 := by rw [HW4.out]; exact later_alloc _ _
  have C4 := Lib.hid (C3.out.since L4)
  have S4 := Lib.hid (below_chain S3.out L4)
  have a4 : W4.cell? ⟨W3.heap.size, 1, none⟩ = some (.int .i64 1) := by rw [HW4.out, cell_new]; rfl
  have z4 : W3.heap.size < W4.heap.size := by rw [HW4.out]; simp
  obtain ⟨b4, HB4⟩ : ∃ b4, Hid (W3.heap.size = b4) := ⟨_, rfl⟩
  rw [HB4.out] at a4 z4
  rw [← HW4.out, HB4.out]
  clear HW4 L4 C3 S3 HB4
  refine (tget_any 5 (by omega) (by omega) C4.out).mono ?_
  rw [G2.out]
  rintro e W5 ⟨rfl, hb5⟩
  have C5 := Lib.hid (C4.out.since hb5.out)
  have S5 := Lib.hid (below_chain S4.out hb5.out)
  have a5 : W5.cell? ⟨b4, 1, none⟩ = some (.int .i64 1) := (hb5.out.cell z4).trans a4
  have z5 : b4 < W5.heap.size := Nat.lt_of_lt_of_le z4 hb5.out.size
  clear hb5 C4 S4 a4 z4
  rw [pairO_some]
  go_wp2_with fail
  obtain ⟨W6, HW6⟩ : ∃ W6, Hid (W6 = W5.alloc (.cells #[.int .u64 5, .int .i64 2, .bool false, .int .i64 0] 32)) := ⟨_, rfl⟩
  have L6 : Below W5.heap.size W5 W6 := by rw [HW6.out]; exact later_alloc _ _
  have C6 := Lib.hid (C5.out.since L6)
  have S6 := Lib.hid (below_chain S5.out L6)
  have a6 : W6.cell? ⟨b4, 1, none⟩ = some (.int .i64 1) := (L6.cell z5).trans a5
  have c6 : W6.cell? ⟨W5.heap.size, 1, none⟩ = some (.int .i64 2) := by rw [HW6.out, cell_new]; rfl
  rw [← HW6.out]
  clear L6 C5 S5 HW6 a5
  go_wp2_with fail
  refine (tlen_any C6.out).mono ?_
  rw [N2.out]
  rintro e W7 ⟨rfl, hb7⟩
  have C7 := Lib.hid (C6.out.since hb7.out)
  have S7 := Lib.hid (below_chain S6.out hb7.out)
  clear hb7 C6 S6
  go_wp2_with fail
  refine (tdirty_any C7.out).mono ?_
  rw [D2.out]
  rintro e W8 ⟨rfl, hb8⟩
  have C8 := Lib.hid (C7.out.since hb8.out)
  have S8 := Lib.hid (below_chain S7.out hb8.out)
  clear hb8 C7 S7
  go_wp2_with fail
  refine (tfrom_any 6 9 false (by omega) (by omega) (by omega) (by omega) C8.out).mono ?_
  rw [F2.out]
  rintro e W9 ⟨A9, n9, c9, rfl, hi9, hb9⟩
  obtain rfl : 0 = n9 := hi9.out.len
  have S9 := Lib.hid (below_chain S8.out hb9.out)
  clear hb9 hi9 C8 S8
  go_wp2_with fail
  go_ret
  exact ⟨rfl, S9⟩
end Go.Proofs.Ythamnmadgfmbkaa
