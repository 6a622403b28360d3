/- TableNone: true, whatever its arguments are. No conditions. -/
import Derived.Test.YthamnmadgfmbkaaTabAwake
set_option linter.unusedVariables false
set_option linter.unusedSimpArgs false
namespace Go.Proofs.Ythamnmadgfmbkaa
open Go.RowKit

set_option maxHeartbeats 8000000 in
theorem none_law (x : E) (n : Int) (w : World) (z : -9223372036854775808 ≤ n ∧ n ≤ 9223372036854775807) : Calls Try.prog 5 #[entV x, .int .i64 n] w (SaysB w true) := by
  obtain ⟨xa, xp, xd, xs⟩ := x
  obtain ⟨W0, HW0⟩ : ∃ W0, Hid (W0 = w.alloc (.cells #[.int .u64 xa, .int .i64 xp, .bool xd, .int .i64 xs] 32)) := ⟨_, rfl⟩
  have S0 : Hid (Below w.heap.size w W0) := by rw [HW0.out]; exact later_alloc _ _
  have R0 : Hid (RestC (fun _ => False) W0 w.heap.size #[.int .u64 xa, .int .i64 xp, .bool xd, .int .i64 xs] 32) := by rw [HW0.out]; exact RestC.new w _ _ (fun b h => h.elim)
  obtain ⟨b0, HB0⟩ : ∃ b0, Hid (w.heap.size = b0) := ⟨_, rfl⟩
  rw [HB0.out] at R0
  obtain ⟨p0, q0, r0, s0⟩ : W0.cell? ⟨b0, 0, none⟩ = some (.int .u64 xa) ∧ W0.cell? ⟨b0, 1, none⟩ = some (.int .i64 xp) ∧ W0.cell? ⟨b0, 2, none⟩ = some (.bool xd) ∧ W0.cell? ⟨b0, 3, none⟩ = some (.int .i64 xs) := ⟨by rw [R0.out.cell]; rfl, by rw [R0.out.cell]; rfl, by rw [R0.out.cell]; rfl, by rw [R0.out.cell]; rfl⟩
  unfold entV
  dsimp only
  go_enter Try.func5, Try.ntmps5
  go_wp2_with fail
  rw [← HW0.out, HB0.out]
  go_wp2_with fail
  refine (tput_nil ⟨xa, xp, xd, xs⟩ _).mono ?_
  rintro e W1 ⟨rfl, hb1⟩
  have S1 := Lib.hid (below_chain S0.out hb1.out)
  have R1 := Lib.hid (R0.out.since hb1.out)
  clear hb1 S0 R0 p0 q0 r0 s0 HB0 HW0
  rw [pairO_none]
  obtain ⟨W2, HW2⟩ : ∃ W2, Hid (W2 = W1.alloc (.cells #[.int .u64 0, .int .i64 0, .bool false, .int .i64 0] 32)) := ⟨_, rfl⟩
  have hb2 : Below W1.heap.size W1 W2 := by rw [HW2.out]; exact later_alloc _ _
  have S2 := Lib.hid (below_chain S1.out hb2)
  have R2 := Lib.hid (R1.out.since hb2)
  have X2 : Hid (RestC (fun _ => False) W2 W1.heap.size #[.int .u64 0, .int .i64 0, .bool false, .int .i64 0] 32) := by rw [HW2.out]; exact RestC.new W1 _ _ (fun b h => h.elim)
  obtain ⟨bX, HBX⟩ : ∃ bX, Hid (W1.heap.size = bX) := ⟨_, rfl⟩
  rw [HBX.out] at X2
  have z2 : (W1.alloc (.cells #[.int .u64 0, .int .i64 0, .bool false, .int .i64 0] 32)).cell? ⟨b0, 0, none⟩ = some (.int .u64 xa) := by rw [← HW2.out, R2.out.cell]; rfl
  go_wp2_with fail
  rw [← HW2.out]
  try rw [HBX.out]
  clear hb2 HW2 HBX S1 R1 z2 
  refine (tget_nil xa _).mono ?_
  rintro e W3 ⟨rfl, hb3⟩
  have S3 := Lib.hid (below_chain S2.out hb3.out)
  have R3 := Lib.hid (R2.out.since hb3.out)
  have X3 := Lib.hid (X2.out.since hb3.out)
  clear hb3 S2 R2 X2
  rw [pairO_none]
  obtain ⟨W4, HW4⟩ : ∃ W4, Hid (W4 = W3.alloc (.cells #[.int .u64 0, .int .i64 0, .bool false, .int .i64 0] 32)) := ⟨_, rfl⟩
  have hb4 : Below W3.heap.size W3 W4 := by rw [HW4.out]; exact later_alloc _ _
  have S4 := Lib.hid (below_chain S3.out hb4)
  have R4 := Lib.hid (R3.out.since hb4)
  have X4 := Lib.hid (X3.out.since hb4)
  have Y4 : Hid (RestC (fun _ => False) W4 W3.heap.size #[.int .u64 0, .int .i64 0, .bool false, .int .i64 0] 32) := by rw [HW4.out]; exact RestC.new W3 _ _ (fun b h => h.elim)
  obtain ⟨bY, HBY⟩ : ∃ bY, Hid (W3.heap.size = bY) := ⟨_, rfl⟩
  rw [HBY.out] at Y4
  have z4 : (W3.alloc (.cells #[.int .u64 0, .int .i64 0, .bool false, .int .i64 0] 32)).cell? ⟨b0, 0, none⟩ = some (.int .u64 xa) := by rw [← HW4.out, R4.out.cell]; rfl
  go_wp2_with fail
  rw [← HW4.out]
  try rw [HBY.out]
  clear hb4 HW4 HBY S3 R3 z4 X3
  refine (tdrop_nil xa _).mono ?_
  rintro e W5 ⟨rfl, hb5⟩
  have S5 := Lib.hid (below_chain S4.out hb5.out)
  have R5 := Lib.hid (R4.out.since hb5.out)
  have X5 := Lib.hid (X4.out.since hb5.out)
  have Y5 := Lib.hid (Y4.out.since hb5.out)
  clear hb5 S4 R4 X4 Y4
  rw [pairO_none]
  obtain ⟨W6, HW6⟩ : ∃ W6, Hid (W6 = W5.alloc (.cells #[.int .u64 0, .int .i64 0, .bool false, .int .i64 0] 32)) := ⟨_, rfl⟩
  have hb6 : Below W5.heap.size W5 W6 := by rw [HW6.out]; exact later_alloc _ _
  have S6 := Lib.hid (below_chain S5.out hb6)
  have R6 := Lib.hid (R5.out.since hb6)
  have X6 := Lib.hid (X5.out.since hb6)
  have Y6 := Lib.hid (Y5.out.since hb6)
  have Z6 : Hid (RestC (fun _ => False) W6 W5.heap.size #[.int .u64 0, .int .i64 0, .bool false, .int .i64 0] 32) := by rw [HW6.out]; exact RestC.new W5 _ _ (fun b h => h.elim)
  obtain ⟨bZ, HBZ⟩ : ∃ bZ, Hid (W5.heap.size = bZ) := ⟨_, rfl⟩
  rw [HBZ.out] at Z6
  have xX0 : (W5.alloc (.cells #[.int .u64 0, .int .i64 0, .bool false, .int .i64 0] 32)).cell? ⟨bX, 0, none⟩ = some (.int .u64 0) := by rw [← HW6.out, X6.out.cell]; rfl
  have xX1 : (W5.alloc (.cells #[.int .u64 0, .int .i64 0, .bool false, .int .i64 0] 32)).cell? ⟨bX, 1, none⟩ = some (.int .i64 0) := by rw [← HW6.out, X6.out.cell]; rfl
  have xX2 : (W5.alloc (.cells #[.int .u64 0, .int .i64 0, .bool false, .int .i64 0] 32)).cell? ⟨bX, 2, none⟩ = some (.bool false) := by rw [← HW6.out, X6.out.cell]; rfl
  have xX3 : (W5.alloc (.cells #[.int .u64 0, .int .i64 0, .bool false, .int .i64 0] 32)).cell? ⟨bX, 3, none⟩ = some (.int .i64 0) := by rw [← HW6.out, X6.out.cell]; rfl
  have xY0 : (W5.alloc (.cells #[.int .u64 0, .int .i64 0, .bool false, .int .i64 0] 32)).cell? ⟨bY, 0, none⟩ = some (.int .u64 0) := by rw [← HW6.out, Y6.out.cell]; rfl
  have xY1 : (W5.alloc (.cells #[.int .u64 0, .int .i64 0, .bool false, .int .i64 0] 32)).cell? ⟨bY, 1, none⟩ = some (.int .i64 0) := by rw [← HW6.out, Y6.out.cell]; rfl
  have xY2 : (W5.alloc (.cells #[.int .u64 0, .int .i64 0, .bool false, .int .i64 0] 32)).cell? ⟨bY, 2, none⟩ = some (.bool false) := by rw [← HW6.out, Y6.out.cell]; rfl
  have xY3 : (W5.alloc (.cells #[.int .u64 0, .int .i64 0, .bool false, .int .i64 0] 32)).cell? ⟨bY, 3, none⟩ = some (.int .i64 0) := by rw [← HW6.out, Y6.out.cell]; rfl
  have xZ0 : (W5.alloc (.cells #[.int .u64 0, .int .i64 0, .bool false, .int .i64 0] 32)).cell? ⟨W5.heap.size, 0, none⟩ = some (.int .u64 0) := by rw [HBZ.out, ← HW6.out, Z6.out.cell]; rfl
  have xZ1 : (W5.alloc (.cells #[.int .u64 0, .int .i64 0, .bool false, .int .i64 0] 32)).cell? ⟨W5.heap.size, 1, none⟩ = some (.int .i64 0) := by rw [HBZ.out, ← HW6.out, Z6.out.cell]; rfl
  have xZ2 : (W5.alloc (.cells #[.int .u64 0, .int .i64 0, .bool false, .int .i64 0] 32)).cell? ⟨W5.heap.size, 2, none⟩ = some (.bool false) := by rw [HBZ.out, ← HW6.out, Z6.out.cell]; rfl
  have xZ3 : (W5.alloc (.cells #[.int .u64 0, .int .i64 0, .bool false, .int .i64 0] 32)).cell? ⟨W5.heap.size, 3, none⟩ = some (.int .i64 0) := by rw [HBZ.out, ← HW6.out, Z6.out.cell]; rfl
  go_wp2_with fail
  rw [← HW6.out]
  try rw [HBZ.out]
  clear hb6 HW6 HBZ S5 R5 xX0 xX1 xX2 xX3 xY0 xY1 xY2 xY3 xZ0 xZ1 xZ2 xZ3  X5 Y5
  clear X6 Y6 Z6 R6
  refine (tlen_nil _).mono ?_
  rintro e W7 ⟨rfl, hb7⟩
  have S7 := Lib.hid (below_chain S6.out hb7.out)
  clear hb7 S6
  go_wp2_with fail
  refine (tdirty_nil _).mono ?_
  rintro e W8 ⟨rfl, hb8⟩
  have S8 := Lib.hid (below_chain S7.out hb8.out)
  clear hb8 S7
  go_wp2_with fail
  refine (tall_nil _).mono ?_
  rintro e W9 ⟨rfl, hb9⟩
  have S9 := Lib.hid (below_chain S8.out hb9.out)
  clear hb9 S8
  go_wp2_with fail
  refine (tfrom_nil 0 n true _).mono ?_
  rintro e W10 ⟨rfl, hb10⟩
  have S10 := Lib.hid (below_chain S9.out hb10.out)
  clear hb10 S9
  go_wp2_with fail
  refine (tcopy_nil _).mono ?_
  rintro e W11 ⟨rfl, hb11⟩
  have S11 := Lib.hid (below_chain S10.out hb11.out)
  clear hb11 S10
  go_wp2_with fail
  refine (tawake_any _).mono ?_
  rintro e W12 ⟨rfl, hb12⟩
  have S12 := Lib.hid (below_chain S11.out hb12.out)
  clear hb12 S11
  go_wp2_with fail
  go_ret
  exact ⟨rfl, S12⟩
end Go.Proofs.Ythamnmadgfmbkaa
