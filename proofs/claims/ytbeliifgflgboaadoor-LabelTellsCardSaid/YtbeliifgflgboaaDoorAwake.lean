/- The contract of the statements' awake: it answers true. Condition: what the package's listed variables hold. -/
import Derived.Test.YtbeliifgflgboaaDoorNumber
import Derived.Test.YtbeliifgflgboaaDoorCols
set_option linter.unusedVariables false
set_option linter.unusedSimpArgs false
namespace Go.Proofs.YtbeliifgflgboaaDoor
open Go.RowKit

theorem aw_number (w : World) (hL : Laid w) : Calls Tryd.prog 23 #[.string ⟨#[48, 120, 102, 102]⟩] w fun e w' => e = .returned (.tuple #[.int .u64 255, .bool true]) ∧ Below w.heap.size w w' := by
  refine (number_ret ⟨#[48, 120, 102, 102]⟩ (by decide) w hL).mono ?_
  rintro e w' ⟨he, hb⟩
  refine ⟨?_, hb⟩
  unfold RetN at he
  rw [show numL (⟨#[48, 120, 102, 102]⟩ : ByteArray).data.toList = (255, true) from by decide +kernel] at he
  exact he
theorem aw_hex (w : World) (hL : Laid w) : Calls Tryd.prog 25 #[.int .u64 255] w fun e w' => e = .returned (.string ⟨#[48, 120, 102, 102]⟩) ∧ Below w.heap.size w w' := by
  have h := hex_any 255 (by decide) w hL.tab hL.h4
  rw [show hexF 255 = [48, 120, 102, 102] from by decide +kernel] at h
  exact h
theorem aw_clip (w : World) : Calls Tryd.prog 15 #[.string ⟨#[230, 151, 165, 230, 156, 172]⟩, .int .i64 3] w fun e w' => e = .returned (.string ⟨#[230, 151, 165]⟩) ∧ Below w.heap.size w w' := by
  have h := clip_any ⟨#[230, 151, 165, 230, 156, 172]⟩ 3 w (by decide) (by decide) (by decide)
  rw [show clipL (⟨#[230, 151, 165, 230, 156, 172]⟩ : ByteArray).data.toList 3 = [230, 151, 165] from by decide +kernel] at h
  exact h
theorem aw_columns (w : World) : Calls Tryd.prog 13 #[.string ⟨#[230, 151, 165, 97]⟩] w fun e w' => e = .returned (.int .i64 3) ∧ Below w.heap.size w w' := by
  have h := columns_any ⟨#[230, 151, 165, 97]⟩ w (by decide)
  rw [show columnsL (⟨#[230, 151, 165, 97]⟩ : ByteArray).data.toList = 3 from by decide +kernel] at h
  exact h
theorem aw_fold (w : World) : Calls Tryd.prog 17 #[.string ⟨#[65, 195, 128, 206, 163]⟩] w fun e w' => e = .returned (.string ⟨#[97, 195, 160, 207, 131]⟩) ∧ Below w.heap.size w w' := by
  have h := fold_any ⟨#[65, 195, 128, 206, 163]⟩ w (by decide)
  rw [show foldL (⟨#[65, 195, 128, 206, 163]⟩ : ByteArray).data.toList = [97, 195, 160, 207, 131] from by decide +kernel] at h
  exact h
theorem aw_may1 (w : World) : Calls Tryd.prog 11 #[.string ⟨#[97, 45, 98]⟩] w fun e w' => e = .returned (.bool true) ∧ Below w.heap.size w w' := by
  have h := may_any ⟨#[97, 45, 98]⟩ w (by decide)
  rw [show mayL (⟨#[97, 45, 98]⟩ : ByteArray).data.toList = true from by decide +kernel] at h
  exact h
theorem aw_may2 (w : World) : Calls Tryd.prog 11 #[.string ⟨#[45, 97]⟩] w fun e w' => e = .returned (.bool false) ∧ Below w.heap.size w w' := by
  have h := may_any ⟨#[45, 97]⟩ w (by decide)
  rw [show mayL (⟨#[45, 97]⟩ : ByteArray).data.toList = false from by decide +kernel] at h
  exact h
theorem aw_good1 (w : World) : Calls Tryd.prog 21 #[.int .i32 95] w fun e w' => e = .returned (.bool true) ∧ w = w' := by
  have h := good_any 95 w
  rw [show goodB 95 = true from by decide +kernel] at h
  exact h
theorem aw_good2 (w : World) : Calls Tryd.prog 21 #[.int .i32 46] w fun e w' => e = .returned (.bool false) ∧ w = w' := by
  have h := good_any 46 w
  rw [show goodB 46 = false from by decide +kernel] at h
  exact h

theorem below_chain {w a b : World} (h : Below w.heap.size w a) (k : Below a.heap.size a b) : Below w.heap.size w b := h.trans (k.mono (by have := h.size; omega))

set_option maxHeartbeats 2000000 in
set_option maxRecDepth 100000 in
theorem awake_any (w : World) (hL : Laid w) : Calls Tryd.prog 10 #[] w fun e w' => e = .returned (.bool true) ∧ Below w.heap.size w w' := by
  have HL := Lib.hid hL
  clear hL
  go_enter Tryd.func10, Tryd.ntmps10
  go_wp2_with fail
  refine (aw_number _ HL.out).mono ?_
  rintro e W1 ⟨rfl, hb⟩
  go_wp2_with fail
  refine (aw_hex _ (HL.out.below hb)).mono ?_
  rintro e W2 ⟨rfl, hb2⟩
  go_wp2_with fail
  refine (aw_clip _).mono ?_
  rintro e W3 ⟨rfl, hb3⟩
  go_wp2_with fail
  refine (aw_columns _).mono ?_
  rintro e W4 ⟨rfl, hb4⟩
  go_wp2_with fail
  refine (aw_fold _).mono ?_
  rintro e W5 ⟨rfl, hb5⟩
  go_wp2_with fail
  refine (aw_may1 _).mono ?_
  rintro e W6 ⟨rfl, hb6⟩
  go_wp2_with fail
  refine (aw_may2 _).mono ?_
  rintro e W7 ⟨rfl, hb7⟩
  go_wp2_with fail
  refine (aw_good1 _).mono ?_
  rintro e W8 ⟨rfl, rfl⟩
  go_wp2_with fail
  refine (aw_good2 _).mono ?_
  rintro e W9 ⟨rfl, rfl⟩
  go_wp2_with fail
  go_ret
  exact ⟨rfl, below_chain (below_chain (below_chain (below_chain (below_chain (below_chain hb hb2) hb3) hb4) hb5) hb6) hb7⟩
end Go.Proofs.YtbeliifgflgboaaDoor
