/- The statements' own awake: true. No conditions. -/
import Derived.Test.YtgonphcjkoobmaaDevMish
set_option linter.unusedVariables false
set_option linter.unusedSimpArgs false
namespace Go.Proofs.Ytgonphcjkoobmaa
open Go.RowKit

def oneM : M := ⟨3, 2, 0, 0⟩
theorem oneM_wf : MWf oneM := ⟨by decide, by decide, by decide, by decide, by decide, by decide, by decide, by decide⟩
theorem zeroM_wf : MWf M.zero := ⟨by decide, by decide, by decide, by decide, by decide, by decide, by decide, by decide⟩
theorem mish_one (W : World) (m : M) (hm : MWf m) : mishK.Lie (W.alloc (.cells #[.int .i64 m.at_, .int .i64 m.kind, .int .i64 m.bytes, .int .u8 m.fill] 25)) (W.alloc (.cells #[.int .i64 m.at_, .int .i64 m.kind, .int .i64 m.bytes, .int .u8 m.fill] 25)).heap.size (some ⟨W.heap.size, 0, none⟩) 1 [m] :=
  Kind.new1 W m hm _ rfl
theorem mish_lit3 (W : World) : mishK.Lie (W.alloc (.cells #[.int .i64 3, .int .i64 2, .int .i64 0, .int .u8 0] 25)) (W.alloc (.cells #[.int .i64 3, .int .i64 2, .int .i64 0, .int .u8 0] 25)).heap.size (some ⟨W.heap.size, 0, none⟩) 1 [oneM] := mish_one W oneM oneM_wf
theorem mish_lit0 (W : World) : mishK.Lie (W.alloc (.cells #[.int .i64 0, .int .i64 0, .int .i64 0, .int .u8 0] 25)) (W.alloc (.cells #[.int .i64 0, .int .i64 0, .int .i64 0, .int .u8 0] 25)).heap.size (some ⟨W.heap.size, 0, none⟩) 1 [M.zero] := mish_one W M.zero zeroM_wf
set_option maxHeartbeats 8000000 in
set_option maxRecDepth 20000 in
theorem awake7_any (w : World) : Calls Try.prog 6 #[] w (SaysB w true) := by
  have S0 := Lib.hid (since_alloc (Below.refl w.heap.size w) (.cells #[.int .i64 3, .int .i64 2, .int .i64 0, .int .u8 0] 25))
  have R0 : Hid (RowM (w.alloc (.cells #[.int .i64 3, .int .i64 2, .int .i64 0, .int .u8 0] 25)) w.heap.size ⟨3, 2, 0, 0⟩) := rowM_new w ⟨3, 2, 0, 0⟩
  have HZ : (w.alloc (.cells #[.int .i64 3, .int .i64 2, .int .i64 0, .int .u8 0] 25)).heap.size = w.heap.size + 1 := by simp
  have L0 := Lib.hid (mish_lit3 (w.alloc (.cells #[.int .i64 3, .int .i64 2, .int .i64 0, .int .u8 0] 25)))
  rw [HZ] at L0
  have S1 := Lib.hid (since_alloc S0.out (.cells #[.int .i64 3, .int .i64 2, .int .i64 0, .int .u8 0] 25))
  have R1 := Lib.hid (R0.out.since (later_alloc _ (.cells #[.int .i64 3, .int .i64 2, .int .i64 0, .int .u8 0] 25)))
  clear HZ S0 R0
  go_enter Try.func6, Try.ntmps6
  go_wp2_with fail
  refine (at7_any 3 _ 1 1 [oneM] _ (by omega) L0.out).mono ?_
  rw [show atV (atM 3 [oneM]) = .tuple #[.agg #[.int .i64 3, .int .i64 2, .int .i64 0, .int .u8 0], .bool true] from rfl]
  rintro e W2 ⟨rfl, hb2⟩
  have S2 := Lib.hid (below_chain S1.out hb2.out)
  have R2 := Lib.hid (R1.out.since hb2.out)
  have S3 := Lib.hid (since_alloc S2.out (.cells #[.int .i64 3, .int .i64 2, .int .i64 0, .int .u8 0] 25))
  have R3 := Lib.hid (R2.out.since (later_alloc W2 (.cells #[.int .i64 3, .int .i64 2, .int .i64 0, .int .u8 0] 25)))
  obtain ⟨d0, d1, d2, d3⟩ := R3.out.at_
  dsimp only at d0 d1 d2 d3
  have L3 := Lib.hid (mish_lit3 (W2.alloc (.cells #[.int .i64 3, .int .i64 2, .int .i64 0, .int .u8 0] 25)))
  rw [show (W2.alloc (.cells #[.int .i64 3, .int .i64 2, .int .i64 0, .int .u8 0] 25)).heap.size = W2.heap.size + 1 by simp] at L3
  have S4 := Lib.hid (since_alloc S3.out (.cells #[.int .i64 3, .int .i64 2, .int .i64 0, .int .u8 0] 25))
  have R4 := Lib.hid (R3.out.since (later_alloc _ (.cells #[.int .i64 3, .int .i64 2, .int .i64 0, .int .u8 0] 25)))
  clear hb2 L0 S1 R1
  go_wp2_with fail
  refine (may7_any _ 1 1 [oneM] _ (by omega) L3.out).mono ?_
  rw [show mayM [oneM] = true by decide]
  rintro e W5 ⟨rfl, hb5⟩
  have S5 := Lib.hid (below_chain S4.out hb5.out)
  have R5 := Lib.hid (R4.out.since hb5.out)
  clear d0 d1 d2 d3 hb5 S2 S3 S4 R2 R3 R4 L3
  have S6 := Lib.hid (since_alloc S5.out (.cells #[.int .i64 0, .int .i64 0, .int .i64 0, .int .u8 0] 25))
  have R6 := Lib.hid (R5.out.since (later_alloc W5 (.cells #[.int .i64 0, .int .i64 0, .int .i64 0, .int .u8 0] 25)))
  go_wp2_with fail
  refine (may7_any _ 1 1 [M.zero] _ (by omega) (mish_lit0 W5)).mono ?_
  rw [show mayM [M.zero] = false by decide]
  rintro e W7 ⟨rfl, hb7⟩
  have S7 := Lib.hid (below_chain S6.out hb7.out)
  have R7 := Lib.hid (R6.out.since hb7.out)
  clear hb7 S5 S6 R5 R6
  obtain ⟨d0, d1, d2, d3⟩ := R7.out.at_
  dsimp only at d0 d1 d2 d3
  have S8 := Lib.hid (since_alloc S7.out (.cells #[.int .i64 3, .int .i64 2, .int .i64 0, .int .u8 0] 25))
  have R8 := Lib.hid (R7.out.since (later_alloc W7 (.cells #[.int .i64 3, .int .i64 2, .int .i64 0, .int .u8 0] 25)))
  go_wp2_with fail
  refine (darks7_any _ 1 1 [oneM] _ (by omega) (mish_lit3 W7)).mono ?_
  rw [show darksM [oneM] = 1 by decide]
  rintro e W9 ⟨rfl, hb9⟩
  have S9 := Lib.hid (below_chain S8.out hb9.out)
  have R9 := Lib.hid (R8.out.since hb9.out)
  clear d0 d1 d2 d3 hb9 S7 S8 R7 R8
  obtain ⟨d0, d1, d2, d3⟩ := R9.out.at_
  dsimp only at d0 d1 d2 d3
  have S10 := Lib.hid (since_alloc S9.out (.cells #[.int .i64 3, .int .i64 2, .int .i64 0, .int .u8 0] 25))
  go_wp2_with fail
  refine (after7_any 3 _ 1 1 [oneM] _ (by omega) (mish_lit3 W9)).mono ?_
  rw [show afterM 3 [oneM] = [] by decide]
  rintro e W11 ⟨A11, n11, c11, rfl, O11, hb11⟩
  obtain rfl : 0 = n11 := O11.out.len
  have S11 := Lib.hid (below_chain S10.out hb11.out)
  go_wp2_with fail
  go_ret
  exact ⟨rfl, S11⟩
end Go.Proofs.Ytgonphcjkoobmaa
