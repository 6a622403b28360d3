/- LabelTells, walked: whatever the texts, the width and the rune, it answers true. Condition: what the listed variables hold. -/
import Derived.Test.YtbeliifgflgboaaDoorLawJoins
import Derived.Test.YtbeliifgflgboaaDoorRefFold
set_option linter.unusedVariables false
set_option linter.unusedSimpArgs false
namespace Go.Proofs.YtbeliifgflgboaaDoor
open Go.RowKit

set_option maxHeartbeats 1000000 in
set_option maxRecDepth 100000 in
theorem tells_long1 (s t : ByteArray) (c r : Int) (hs : 100 < s.size) (hs' : s.size ≤ 9223372036854775807) (w : World) (hL : Laid w) :
    Calls Tryd.prog 3 #[.string s, .string t, .int .i64 c, .int .i32 r] w fun e w' => e = .returned (.bool true) ∧ Below w.heap.size w w' := by
  have HL := Lib.hid hL
  clear hL
  go_enter Tryd.func3, Tryd.ntmps3
  go_wp2_with fail
  refine (awake_any _ HL.out).mono ?_
  rintro e W1 ⟨rfl, hb1⟩
  go_wp2_with fail
  go_ret
  exact ⟨rfl, hb1⟩
set_option maxHeartbeats 1000000 in
set_option maxRecDepth 100000 in
theorem tells_long2 (s t : ByteArray) (c r : Int) (hs : s.size ≤ 100) (ht : 100 < t.size) (ht' : t.size ≤ 9223372036854775807) (w : World) (hL : Laid w) :
    Calls Tryd.prog 3 #[.string s, .string t, .int .i64 c, .int .i32 r] w fun e w' => e = .returned (.bool true) ∧ Below w.heap.size w w' := by
  have HL := Lib.hid hL
  clear hL
  go_enter Tryd.func3, Tryd.ntmps3
  go_wp2_with fail
  refine (awake_any _ HL.out).mono ?_
  rintro e W1 ⟨rfl, hb1⟩
  go_wp2_with fail
  go_ret
  exact ⟨rfl, hb1⟩
set_option maxHeartbeats 2000000 in
set_option maxRecDepth 100000 in
theorem tells_core (s t C F : ByteArray) (c r A : Int) (M S G : Bool) (hs : s.size ≤ 100) (ht : t.size ≤ 100)
    (m1 : ∀ w, Calls Tryd.prog 11 #[.string s] w fun e w' => e = .returned (.bool M) ∧ Below w.heap.size w w')
    (m2 : ∀ w, Calls Tryd.prog 12 #[.string s] w fun e w' => e = .returned (.bool M) ∧ Below w.heap.size w w')
    (c1 : ∀ w, Calls Tryd.prog 13 #[.string s] w fun e w' => e = .returned (.int .i64 A) ∧ Below w.heap.size w w')
    (c2 : ∀ w, Calls Tryd.prog 14 #[.string s] w fun e w' => e = .returned (.int .i64 A) ∧ Below w.heap.size w w')
    (k1 : ∀ w, Calls Tryd.prog 15 #[.string s, .int .i64 c] w fun e w' => e = .returned (.string C) ∧ Below w.heap.size w w')
    (k2 : ∀ w, Calls Tryd.prog 16 #[.string s, .int .i64 c] w fun e w' => e = .returned (.string C) ∧ Below w.heap.size w w')
    (f1 : ∀ w, Calls Tryd.prog 17 #[.string s] w fun e w' => e = .returned (.string F) ∧ Below w.heap.size w w')
    (f2 : ∀ w, Calls Tryd.prog 18 #[.string s] w fun e w' => e = .returned (.string F) ∧ Below w.heap.size w w')
    (s1 : ∀ w, Calls Tryd.prog 19 #[.string s, .string t] w fun e w' => e = .returned (.bool S) ∧ Below w.heap.size w w')
    (s2 : ∀ w, Calls Tryd.prog 20 #[.string s, .string t] w fun e w' => e = .returned (.bool S) ∧ Below w.heap.size w w')
    (g1 : ∀ w, Calls Tryd.prog 21 #[.int .i32 r] w fun e w' => e = .returned (.bool G) ∧ w = w')
    (g2 : ∀ w, Calls Tryd.prog 22 #[.int .i32 r] w fun e w' => e = .returned (.bool G) ∧ w = w')
    (w : World) (hL : Laid w) :
    Calls Tryd.prog 3 #[.string s, .string t, .int .i64 c, .int .i32 r] w fun e w' => e = .returned (.bool true) ∧ Below w.heap.size w w' := by
  have HL := Lib.hid hL
  clear hL
  go_enter Tryd.func3, Tryd.ntmps3
  go_wp2_with fail
  refine (m1 _).mono ?_
  rintro e W1 ⟨rfl, B⟩
  go_wp2_with fail
  refine (m2 _).mono ?_
  rintro e W2 ⟨rfl, k⟩
  replace B := below_chain B k
  clear k
  go_wp2_with fail
  refine (c1 _).mono ?_
  rintro e W3 ⟨rfl, k⟩
  replace B := below_chain B k
  clear k
  go_wp2_with fail
  refine (c2 _).mono ?_
  rintro e W4 ⟨rfl, k⟩
  replace B := below_chain B k
  clear k
  go_wp2_with fail
  refine (k1 _).mono ?_
  rintro e W5 ⟨rfl, k⟩
  replace B := below_chain B k
  clear k
  go_wp2_with fail
  refine (k2 _).mono ?_
  rintro e W6 ⟨rfl, k⟩
  replace B := below_chain B k
  clear k
  go_wp2_with fail
  refine (f1 _).mono ?_
  rintro e W7 ⟨rfl, k⟩
  replace B := below_chain B k
  clear k
  go_wp2_with fail
  refine (f2 _).mono ?_
  rintro e W8 ⟨rfl, k⟩
  replace B := below_chain B k
  clear k
  go_wp2_with fail
  refine (s1 _).mono ?_
  rintro e W9 ⟨rfl, k⟩
  replace B := below_chain B k
  clear k
  go_wp2_with fail
  refine (s2 _).mono ?_
  rintro e W10 ⟨rfl, k⟩
  replace B := below_chain B k
  clear k
  go_wp2_with fail
  refine (g1 _).mono ?_
  rintro e W20 ⟨rfl, rfl⟩
  go_wp2_with fail
  refine (g2 _).mono ?_
  rintro e W21 ⟨rfl, rfl⟩
  go_wp2_with fail
  refine (awake_any _ (HL.out.below B)).mono ?_
  rintro e W22 ⟨rfl, k⟩
  replace B := below_chain B k
  clear k
  go_wp2_with fail
  go_ret
  exact ⟨rfl, B⟩

theorem labelTells_any (s t : ByteArray) (c r : Int) (hs : s.size ≤ 9223372036854775807) (ht : t.size ≤ 9223372036854775807) (hc : -9223372036854775808 ≤ c ∧ c ≤ 9223372036854775807) (w : World) (hL : Laid w) :
    Calls Tryd.prog 3 #[.string s, .string t, .int .i64 c, .int .i32 r] w fun e w' => e = .returned (.bool true) ∧ Below w.heap.size w w' := by
  by_cases h1 : 100 < s.size
  · exact tells_long1 s t c r h1 hs w hL
  by_cases h2 : 100 < t.size
  · exact tells_long2 s t c r (by omega) h2 ht w hL
  have hz : s.size ≤ 281474976710656 := by omega
  have hy : t.size ≤ 281474976710656 := by omega
  obtain ⟨C, hC⟩ : ∃ C : ByteArray, C = ⟨(clipL s.data.toList c).toArray⟩ := ⟨_, rfl⟩
  obtain ⟨F, hF⟩ : ∃ F : ByteArray, F = ⟨(foldL s.data.toList).toArray⟩ := ⟨_, rfl⟩
  refine tells_core s t C F c r (columnsL s.data.toList) (mayL s.data.toList) (sameL s.data.toList t.data.toList) (goodB r) (by omega) (by omega)
    (may_at s _ rfl hz) (refMay_any s (by omega)) (columns_at s _ rfl hz) (refColumns_any s (by omega)) (clip_at s c C (by rw [hC]) hz hc.1 hc.2) ?_ (fold_at s F (by rw [hF]) hz) ?_
    (same_at s t _ rfl hz hy) (refSame_any s t (by omega) (by omega)) (fun w => good_any r w) (fun w => refGood_any r w) w hL
  · rw [hC]; exact refClip_any s c (by omega)
  · rw [hF]; exact refFold_any s (by omega)
end Go.Proofs.YtbeliifgflgboaaDoor
