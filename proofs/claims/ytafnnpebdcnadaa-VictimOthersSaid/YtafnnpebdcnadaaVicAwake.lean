/- The statements' own awake: true. No conditions. -/
import Derived.Test.YtafnnpebdcnadaaVicFace
set_option linter.unusedVariables false
set_option linter.unusedSimpArgs false
namespace Go.Proofs.Ytafnnpebdcnadaa
open Go.RowKit

set_option maxHeartbeats 16000000 in
theorem vawake_any (w : World) : Calls Try.prog 7 #[] w (SaysB w true) := by
  have H1 : Hid (firstV (ordV [⟨1, 0, 2, 0, 0⟩, ⟨2, 0, 1, 0, 0⟩]) = (2, true)) := by show _ = _; decide +kernel
  have H2 : Hid (firstV (ordV []) = (0, false)) := by show _ = _; decide +kernel
  have H3 : Hid (gainV 4 ⟨0, 0, 3, 0, 0⟩ = 1) := by show _ = _; decide +kernel
  have H4 : Hid (mayV ⟨0, 0, 3, 0, 0⟩ = true) := by show _ = _; decide +kernel
  have HW : Hid (∀ v ∈ ([⟨1, 0, 2, 0, 0⟩, ⟨2, 0, 1, 0, 0⟩] : List VB), VBWf v) := fun v hv => by
    simp only [List.mem_cons, List.not_mem_nil, or_false] at hv
    rcases hv with rfl | rfl <;> exact ⟨by decide, by decide, by decide, by decide, by decide, by decide, by decide, by decide, by decide, by decide⟩
  have C1 := Lib.hid (vchoose_any (some ⟨w.heap.size, 0, none⟩) 2 2 [⟨1, 0, 2, 0, 0⟩, ⟨2, 0, 1, 0, 0⟩] (w.alloc (.cells #[.int .i64 1, .int .i64 0, .int .i64 2, .int .i64 0, .int .i64 0, .int .i64 2, .int .i64 0, .int .i64 1, .int .i64 0, .int .i64 0] 34)) (by omega) (lie_lit vblkK w _ HW.out _ rfl 2 rfl))
  have B1 : Hid (Below w.heap.size w (w.alloc (.cells #[.int .i64 1, .int .i64 0, .int .i64 2, .int .i64 0, .int .i64 0, .int .i64 2, .int .i64 0, .int .i64 1, .int .i64 0, .int .i64 0] 34))) := later_alloc _ _
  rw [H1.out] at C1
  go_enter Try.func7, Try.ntmps7
  go_wp2_with fail
  refine C1.out.mono ?_
  rintro e w1 ⟨rfl, hb1⟩
  have B2 := Lib.hid (below_chain B1.out hb1.out)
  have C2 := Lib.hid (vchoose_any none 0 0 [] w1 (by omega) Kind.Lie.none_)
  rw [H2.out] at C2
  clear hb1 C1 B1
  go_wp2_with fail
  refine C2.out.mono ?_
  rintro e w2 ⟨rfl, hb2⟩
  have B3 := Lib.hid (below_chain B2.out hb2.out)
  have C3 : Hid (Calls Try.prog 17 #[.agg #[.int .i64 0, .int .i64 0, .int .i64 3, .int .i64 0, .int .i64 0]] w2 (SaysI w2 3)) := vcost_any ⟨0, 0, 3, 0, 0⟩ w2 H4.out
  clear hb2 C2 B2
  go_wp2_with fail
  refine C3.out.mono ?_
  rintro e w3 ⟨rfl, hb3⟩
  have B4 := Lib.hid (below_chain B3.out hb3.out)
  have C4 : Hid (Calls Try.prog 14 #[.int .i64 4, .agg #[.int .i64 0, .int .i64 0, .int .i64 3, .int .i64 0, .int .i64 0]] w3 (SaysI w3 1)) := by
    have := vgain_any 4 ⟨0, 0, 3, 0, 0⟩ w3 ⟨by decide, by decide, by decide, by decide, by decide, by decide, by decide, by decide, by decide, by decide⟩
    rw [H3.out] at this
    exact this
  clear hb3 C3 B3
  go_wp2_with fail
  refine C4.out.mono ?_
  rintro e w4 ⟨rfl, hb4⟩
  have B5 := Lib.hid (below_chain B4.out hb4.out)
  clear hb4 C4 B4
  go_wp2_with fail
  go_ret
  exact ⟨rfl, B5⟩
end Go.Proofs.Ytafnnpebdcnadaa
