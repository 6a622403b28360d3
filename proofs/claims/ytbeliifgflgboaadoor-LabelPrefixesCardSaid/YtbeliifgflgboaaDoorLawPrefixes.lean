/- LabelPrefixes, walked: whatever the text and the two widths, it answers true. Condition: what the listed variables hold. -/
import Derived.Test.YtbeliifgflgboaaDoorLawJoins
import Derived.Test.YtbeliifgflgboaaDoorLow
set_option linter.unusedVariables false
set_option linter.unusedSimpArgs false
namespace Go.Proofs.YtbeliifgflgboaaDoor
open Go.RowKit

theorem min_at (ts : Array TypeId) (ty : TypeId) (p q m : Int) (h : (p ≤ q ∧ m = p) ∨ (q ≤ p ∧ m = q)) (w : World) : (Builtin.min_ ts ty #[.int .i64 p, .int .i64 q]).run Tryd.prog w = .ok (.int .i64 m) w := by
  rw [run_min_int2]
  congr 2
  split <;> omega
theorem max_at (ts : Array TypeId) (ty : TypeId) (p q m : Int) (h : (p ≤ q ∧ m = q) ∨ (q ≤ p ∧ m = p)) (w : World) : (Builtin.max_ ts ty #[.int .i64 p, .int .i64 q]).run Tryd.prog w = .ok (.int .i64 m) w := by
  rw [run_max_int2]
  congr 2
  split <;> omega
set_option maxHeartbeats 1000000 in
set_option maxRecDepth 100000 in
theorem prefixes_long (s : ByteArray) (a b : Int) (hs : 100 < s.size) (hs' : s.size ≤ 9223372036854775807) (w : World) (hL : Laid w) :
    Calls Tryd.prog 9 #[.string s, .int .i64 a, .int .i64 b] w fun e w' => e = .returned (.bool true) ∧ Below w.heap.size w w' := by
  have HL := Lib.hid hL
  clear hL
  go_enter Tryd.func9, Tryd.ntmps9
  go_wp2_with fail
  refine (awake_any _ HL.out).mono ?_
  rintro e W1 ⟨rfl, hb1⟩
  go_wp2_with fail
  go_ret
  exact ⟨rfl, hb1⟩
set_option maxHeartbeats 1000000 in
set_option maxRecDepth 100000 in
theorem prefixes_no (s : ByteArray) (a b : Int) (hs : s.size ≤ 100) (m1 : ∀ w, Calls Tryd.prog 11 #[.string s] w fun e w' => e = .returned (.bool false) ∧ Below w.heap.size w w') (w : World) (hL : Laid w) :
    Calls Tryd.prog 9 #[.string s, .int .i64 a, .int .i64 b] w fun e w' => e = .returned (.bool true) ∧ Below w.heap.size w w' := by
  have HL := Lib.hid hL
  clear hL
  go_enter Tryd.func9, Tryd.ntmps9
  go_wp2_with fail
  refine (m1 _).mono ?_
  rintro e W1 ⟨rfl, hb1⟩
  go_wp2_with fail
  refine (awake_any _ (HL.out.below hb1)).mono ?_
  rintro e W2 ⟨rfl, hb2⟩
  go_wp2_with fail
  go_ret
  exact ⟨rfl, below_chain hb1 hb2⟩

set_option maxHeartbeats 4000000 in
set_option maxRecDepth 100000 in
theorem prefixes_le_less (s X Y Z : ByteArray) (a b p q A : Int) (hs : s.size ≤ 100) (hA0 : 1 ≤ A) (hA1 : A ≤ 24) (hp0 : 0 ≤ p) (hp1 : p < 30) (hq0 : 0 ≤ q) (hq1 : q < 30) (hpq : p ≤ q) (hAq : q < A) (hXY : X.size ≤ Y.size) (hYs : Y.size ≤ 100)
    (pre : ((Y.extract 0 X.size).toList == X.toList) = true) (dif : (Z.toList == s.toList) = false)
    (l1 : ∀ w, Calls Tryd.prog 27 #[.int .i64 a, .int .i64 30] w fun e w' => e = .returned (.int .i64 p) ∧ w = w')
    (l2 : ∀ w, Calls Tryd.prog 27 #[.int .i64 b, .int .i64 30] w fun e w' => e = .returned (.int .i64 q) ∧ w = w')
    (m1 : ∀ w, Calls Tryd.prog 11 #[.string s] w fun e w' => e = .returned (.bool true) ∧ Below w.heap.size w w')
    (x1 : ∀ w, Calls Tryd.prog 15 #[.string s, .int .i64 p] w fun e w' => e = .returned (.string X) ∧ Below w.heap.size w w')
    (x2 : ∀ w, Calls Tryd.prog 15 #[.string s, .int .i64 q] w fun e w' => e = .returned (.string Y) ∧ Below w.heap.size w w')
    (c1 : ∀ w, Calls Tryd.prog 13 #[.string s] w fun e w' => e = .returned (.int .i64 A) ∧ Below w.heap.size w w')
    (y1 : ∀ w, Calls Tryd.prog 15 #[.string s, .int .i64 A] w fun e w' => e = .returned (.string s) ∧ Below w.heap.size w w')
    (y2 : ∀ w, Calls Tryd.prog 15 #[.string s, .int .i64 (A + 1)] w fun e w' => e = .returned (.string s) ∧ Below w.heap.size w w')
    (y3 : ∀ w, Calls Tryd.prog 15 #[.string s, .int .i64 (A - 1)] w fun e w' => e = .returned (.string Z) ∧ Below w.heap.size w w')
    (y4 : ∀ w, Calls Tryd.prog 15 #[.string s, .int .i64 0] w fun e w' => e = .returned (.string ⟨#[]⟩) ∧ Below w.heap.size w w')
    (w : World) (hL : Laid w) :
    Calls Tryd.prog 9 #[.string s, .int .i64 a, .int .i64 b] w fun e w' => e = .returned (.bool true) ∧ Below w.heap.size w w' := by
  have hmin : ∀ ts ty w, (Builtin.min_ ts ty #[.int .i64 p, .int .i64 q]).run Tryd.prog w = .ok (.int .i64 p) w := fun ts ty w => min_at ts ty p q p (by omega) w
  have hmax : ∀ ts ty w, (Builtin.max_ ts ty #[.int .i64 p, .int .i64 q]).run Tryd.prog w = .ok (.int .i64 q) w := fun ts ty w => max_at ts ty p q q (by omega) w
  have HL := Lib.hid hL
  clear hL
  go_enter Tryd.func9, Tryd.ntmps9
  go_wp2_with fail
  refine (m1 _).mono ?_
  rintro e W1 ⟨rfl, B⟩
  go_wp2_with fail
  refine (l1 _).mono ?_
  rintro e W2 ⟨rfl, rfl⟩
  go_wp2_with fail
  refine (l2 _).mono ?_
  rintro e W3 ⟨rfl, rfl⟩
  go_wp2_with fail
  refine (x1 _).mono ?_
  rintro e W4 ⟨rfl, k⟩
  replace B := below_chain B k
  clear k
  go_wp2_with fail
  refine (x2 _).mono ?_
  rintro e W5 ⟨rfl, k⟩
  replace B := below_chain B k
  clear k
  go_wp2_with fail
  refine (c1 _).mono ?_
  rintro e W6 ⟨rfl, k⟩
  replace B := below_chain B k
  clear k
  go_wp2_with fail
  refine (y1 _).mono ?_
  rintro e W7 ⟨rfl, k⟩
  replace B := below_chain B k
  clear k
  go_wp2_with fail
  refine (y2 _).mono ?_
  rintro e W8 ⟨rfl, k⟩
  replace B := below_chain B k
  clear k
  go_wp2_with fail
  refine (y3 _).mono ?_
  rintro e W9 ⟨rfl, k⟩
  replace B := below_chain B k
  clear k
  go_wp2_with fail
  refine (y4 _).mono ?_
  rintro e W10 ⟨rfl, k⟩
  replace B := below_chain B k
  clear k
  go_wp2_with fail
  refine (awake_any _ (HL.out.below B)).mono ?_
  rintro e W11 ⟨rfl, k⟩
  replace B := below_chain B k
  clear k
  go_wp2_with fail
  go_ret
  exact ⟨rfl, B⟩

set_option maxHeartbeats 4000000 in
set_option maxRecDepth 100000 in
theorem prefixes_le_full (s X Y Z : ByteArray) (a b p q A : Int) (hs : s.size ≤ 100) (hA0 : 1 ≤ A) (hA1 : A ≤ 24) (hp0 : 0 ≤ p) (hp1 : p < 30) (hq0 : 0 ≤ q) (hq1 : q < 30) (hpq : p ≤ q) (hAq : A ≤ q) (yy : (Y.toList == s.toList) = true) (hXY : X.size ≤ Y.size) (hYs : Y.size ≤ 100)
    (pre : ((Y.extract 0 X.size).toList == X.toList) = true) (dif : (Z.toList == s.toList) = false)
    (l1 : ∀ w, Calls Tryd.prog 27 #[.int .i64 a, .int .i64 30] w fun e w' => e = .returned (.int .i64 p) ∧ w = w')
    (l2 : ∀ w, Calls Tryd.prog 27 #[.int .i64 b, .int .i64 30] w fun e w' => e = .returned (.int .i64 q) ∧ w = w')
    (m1 : ∀ w, Calls Tryd.prog 11 #[.string s] w fun e w' => e = .returned (.bool true) ∧ Below w.heap.size w w')
    (x1 : ∀ w, Calls Tryd.prog 15 #[.string s, .int .i64 p] w fun e w' => e = .returned (.string X) ∧ Below w.heap.size w w')
    (x2 : ∀ w, Calls Tryd.prog 15 #[.string s, .int .i64 q] w fun e w' => e = .returned (.string Y) ∧ Below w.heap.size w w')
    (c1 : ∀ w, Calls Tryd.prog 13 #[.string s] w fun e w' => e = .returned (.int .i64 A) ∧ Below w.heap.size w w')
    (y1 : ∀ w, Calls Tryd.prog 15 #[.string s, .int .i64 A] w fun e w' => e = .returned (.string s) ∧ Below w.heap.size w w')
    (y2 : ∀ w, Calls Tryd.prog 15 #[.string s, .int .i64 (A + 1)] w fun e w' => e = .returned (.string s) ∧ Below w.heap.size w w')
    (y3 : ∀ w, Calls Tryd.prog 15 #[.string s, .int .i64 (A - 1)] w fun e w' => e = .returned (.string Z) ∧ Below w.heap.size w w')
    (y4 : ∀ w, Calls Tryd.prog 15 #[.string s, .int .i64 0] w fun e w' => e = .returned (.string ⟨#[]⟩) ∧ Below w.heap.size w w')
    (w : World) (hL : Laid w) :
    Calls Tryd.prog 9 #[.string s, .int .i64 a, .int .i64 b] w fun e w' => e = .returned (.bool true) ∧ Below w.heap.size w w' := by
  have hmin : ∀ ts ty w, (Builtin.min_ ts ty #[.int .i64 p, .int .i64 q]).run Tryd.prog w = .ok (.int .i64 p) w := fun ts ty w => min_at ts ty p q p (by omega) w
  have hmax : ∀ ts ty w, (Builtin.max_ ts ty #[.int .i64 p, .int .i64 q]).run Tryd.prog w = .ok (.int .i64 q) w := fun ts ty w => max_at ts ty p q q (by omega) w
  have HL := Lib.hid hL
  clear hL
  go_enter Tryd.func9, Tryd.ntmps9
  go_wp2_with fail
  refine (m1 _).mono ?_
  rintro e W1 ⟨rfl, B⟩
  go_wp2_with fail
  refine (l1 _).mono ?_
  rintro e W2 ⟨rfl, rfl⟩
  go_wp2_with fail
  refine (l2 _).mono ?_
  rintro e W3 ⟨rfl, rfl⟩
  go_wp2_with fail
  refine (x1 _).mono ?_
  rintro e W4 ⟨rfl, k⟩
  replace B := below_chain B k
  clear k
  go_wp2_with fail
  refine (x2 _).mono ?_
  rintro e W5 ⟨rfl, k⟩
  replace B := below_chain B k
  clear k
  go_wp2_with fail
  refine (c1 _).mono ?_
  rintro e W6 ⟨rfl, k⟩
  replace B := below_chain B k
  clear k
  go_wp2_with fail
  refine (y1 _).mono ?_
  rintro e W7 ⟨rfl, k⟩
  replace B := below_chain B k
  clear k
  go_wp2_with fail
  refine (y2 _).mono ?_
  rintro e W8 ⟨rfl, k⟩
  replace B := below_chain B k
  clear k
  go_wp2_with fail
  refine (y3 _).mono ?_
  rintro e W9 ⟨rfl, k⟩
  replace B := below_chain B k
  clear k
  go_wp2_with fail
  refine (y4 _).mono ?_
  rintro e W10 ⟨rfl, k⟩
  replace B := below_chain B k
  clear k
  go_wp2_with fail
  refine (awake_any _ (HL.out.below B)).mono ?_
  rintro e W11 ⟨rfl, k⟩
  replace B := below_chain B k
  clear k
  go_wp2_with fail
  go_ret
  exact ⟨rfl, B⟩

set_option maxHeartbeats 4000000 in
set_option maxRecDepth 100000 in
theorem prefixes_gt_less (s X Y Z : ByteArray) (a b p q A : Int) (hs : s.size ≤ 100) (hA0 : 1 ≤ A) (hA1 : A ≤ 24) (hp0 : 0 ≤ p) (hp1 : p < 30) (hq0 : 0 ≤ q) (hq1 : q < 30) (hpq : q < p) (hAq : p < A) (hXY : X.size ≤ Y.size) (hYs : Y.size ≤ 100)
    (pre : ((Y.extract 0 X.size).toList == X.toList) = true) (dif : (Z.toList == s.toList) = false)
    (l1 : ∀ w, Calls Tryd.prog 27 #[.int .i64 a, .int .i64 30] w fun e w' => e = .returned (.int .i64 p) ∧ w = w')
    (l2 : ∀ w, Calls Tryd.prog 27 #[.int .i64 b, .int .i64 30] w fun e w' => e = .returned (.int .i64 q) ∧ w = w')
    (m1 : ∀ w, Calls Tryd.prog 11 #[.string s] w fun e w' => e = .returned (.bool true) ∧ Below w.heap.size w w')
    (x1 : ∀ w, Calls Tryd.prog 15 #[.string s, .int .i64 q] w fun e w' => e = .returned (.string X) ∧ Below w.heap.size w w')
    (x2 : ∀ w, Calls Tryd.prog 15 #[.string s, .int .i64 p] w fun e w' => e = .returned (.string Y) ∧ Below w.heap.size w w')
    (c1 : ∀ w, Calls Tryd.prog 13 #[.string s] w fun e w' => e = .returned (.int .i64 A) ∧ Below w.heap.size w w')
    (y1 : ∀ w, Calls Tryd.prog 15 #[.string s, .int .i64 A] w fun e w' => e = .returned (.string s) ∧ Below w.heap.size w w')
    (y2 : ∀ w, Calls Tryd.prog 15 #[.string s, .int .i64 (A + 1)] w fun e w' => e = .returned (.string s) ∧ Below w.heap.size w w')
    (y3 : ∀ w, Calls Tryd.prog 15 #[.string s, .int .i64 (A - 1)] w fun e w' => e = .returned (.string Z) ∧ Below w.heap.size w w')
    (y4 : ∀ w, Calls Tryd.prog 15 #[.string s, .int .i64 0] w fun e w' => e = .returned (.string ⟨#[]⟩) ∧ Below w.heap.size w w')
    (w : World) (hL : Laid w) :
    Calls Tryd.prog 9 #[.string s, .int .i64 a, .int .i64 b] w fun e w' => e = .returned (.bool true) ∧ Below w.heap.size w w' := by
  have hmin : ∀ ts ty w, (Builtin.min_ ts ty #[.int .i64 p, .int .i64 q]).run Tryd.prog w = .ok (.int .i64 q) w := fun ts ty w => min_at ts ty p q q (by omega) w
  have hmax : ∀ ts ty w, (Builtin.max_ ts ty #[.int .i64 p, .int .i64 q]).run Tryd.prog w = .ok (.int .i64 p) w := fun ts ty w => max_at ts ty p q p (by omega) w
  have HL := Lib.hid hL
  clear hL
  go_enter Tryd.func9, Tryd.ntmps9
  go_wp2_with fail
  refine (m1 _).mono ?_
  rintro e W1 ⟨rfl, B⟩
  go_wp2_with fail
  refine (l1 _).mono ?_
  rintro e W2 ⟨rfl, rfl⟩
  go_wp2_with fail
  refine (l2 _).mono ?_
  rintro e W3 ⟨rfl, rfl⟩
  go_wp2_with fail
  refine (x1 _).mono ?_
  rintro e W4 ⟨rfl, k⟩
  replace B := below_chain B k
  clear k
  go_wp2_with fail
  refine (x2 _).mono ?_
  rintro e W5 ⟨rfl, k⟩
  replace B := below_chain B k
  clear k
  go_wp2_with fail
  refine (c1 _).mono ?_
  rintro e W6 ⟨rfl, k⟩
  replace B := below_chain B k
  clear k
  go_wp2_with fail
  refine (y1 _).mono ?_
  rintro e W7 ⟨rfl, k⟩
  replace B := below_chain B k
  clear k
  go_wp2_with fail
  refine (y2 _).mono ?_
  rintro e W8 ⟨rfl, k⟩
  replace B := below_chain B k
  clear k
  go_wp2_with fail
  refine (y3 _).mono ?_
  rintro e W9 ⟨rfl, k⟩
  replace B := below_chain B k
  clear k
  go_wp2_with fail
  refine (y4 _).mono ?_
  rintro e W10 ⟨rfl, k⟩
  replace B := below_chain B k
  clear k
  go_wp2_with fail
  refine (awake_any _ (HL.out.below B)).mono ?_
  rintro e W11 ⟨rfl, k⟩
  replace B := below_chain B k
  clear k
  go_wp2_with fail
  go_ret
  exact ⟨rfl, B⟩

set_option maxHeartbeats 4000000 in
set_option maxRecDepth 100000 in
theorem prefixes_gt_full (s X Y Z : ByteArray) (a b p q A : Int) (hs : s.size ≤ 100) (hA0 : 1 ≤ A) (hA1 : A ≤ 24) (hp0 : 0 ≤ p) (hp1 : p < 30) (hq0 : 0 ≤ q) (hq1 : q < 30) (hpq : q < p) (hAq : A ≤ p) (yy : (Y.toList == s.toList) = true) (hXY : X.size ≤ Y.size) (hYs : Y.size ≤ 100)
    (pre : ((Y.extract 0 X.size).toList == X.toList) = true) (dif : (Z.toList == s.toList) = false)
    (l1 : ∀ w, Calls Tryd.prog 27 #[.int .i64 a, .int .i64 30] w fun e w' => e = .returned (.int .i64 p) ∧ w = w')
    (l2 : ∀ w, Calls Tryd.prog 27 #[.int .i64 b, .int .i64 30] w fun e w' => e = .returned (.int .i64 q) ∧ w = w')
    (m1 : ∀ w, Calls Tryd.prog 11 #[.string s] w fun e w' => e = .returned (.bool true) ∧ Below w.heap.size w w')
    (x1 : ∀ w, Calls Tryd.prog 15 #[.string s, .int .i64 q] w fun e w' => e = .returned (.string X) ∧ Below w.heap.size w w')
    (x2 : ∀ w, Calls Tryd.prog 15 #[.string s, .int .i64 p] w fun e w' => e = .returned (.string Y) ∧ Below w.heap.size w w')
    (c1 : ∀ w, Calls Tryd.prog 13 #[.string s] w fun e w' => e = .returned (.int .i64 A) ∧ Below w.heap.size w w')
    (y1 : ∀ w, Calls Tryd.prog 15 #[.string s, .int .i64 A] w fun e w' => e = .returned (.string s) ∧ Below w.heap.size w w')
    (y2 : ∀ w, Calls Tryd.prog 15 #[.string s, .int .i64 (A + 1)] w fun e w' => e = .returned (.string s) ∧ Below w.heap.size w w')
    (y3 : ∀ w, Calls Tryd.prog 15 #[.string s, .int .i64 (A - 1)] w fun e w' => e = .returned (.string Z) ∧ Below w.heap.size w w')
    (y4 : ∀ w, Calls Tryd.prog 15 #[.string s, .int .i64 0] w fun e w' => e = .returned (.string ⟨#[]⟩) ∧ Below w.heap.size w w')
    (w : World) (hL : Laid w) :
    Calls Tryd.prog 9 #[.string s, .int .i64 a, .int .i64 b] w fun e w' => e = .returned (.bool true) ∧ Below w.heap.size w w' := by
  have hmin : ∀ ts ty w, (Builtin.min_ ts ty #[.int .i64 p, .int .i64 q]).run Tryd.prog w = .ok (.int .i64 q) w := fun ts ty w => min_at ts ty p q q (by omega) w
  have hmax : ∀ ts ty w, (Builtin.max_ ts ty #[.int .i64 p, .int .i64 q]).run Tryd.prog w = .ok (.int .i64 p) w := fun ts ty w => max_at ts ty p q p (by omega) w
  have HL := Lib.hid hL
  clear hL
  go_enter Tryd.func9, Tryd.ntmps9
  go_wp2_with fail
  refine (m1 _).mono ?_
  rintro e W1 ⟨rfl, B⟩
  go_wp2_with fail
  refine (l1 _).mono ?_
  rintro e W2 ⟨rfl, rfl⟩
  go_wp2_with fail
  refine (l2 _).mono ?_
  rintro e W3 ⟨rfl, rfl⟩
  go_wp2_with fail
  refine (x1 _).mono ?_
  rintro e W4 ⟨rfl, k⟩
  replace B := below_chain B k
  clear k
  go_wp2_with fail
  refine (x2 _).mono ?_
  rintro e W5 ⟨rfl, k⟩
  replace B := below_chain B k
  clear k
  go_wp2_with fail
  refine (c1 _).mono ?_
  rintro e W6 ⟨rfl, k⟩
  replace B := below_chain B k
  clear k
  go_wp2_with fail
  refine (y1 _).mono ?_
  rintro e W7 ⟨rfl, k⟩
  replace B := below_chain B k
  clear k
  go_wp2_with fail
  refine (y2 _).mono ?_
  rintro e W8 ⟨rfl, k⟩
  replace B := below_chain B k
  clear k
  go_wp2_with fail
  refine (y3 _).mono ?_
  rintro e W9 ⟨rfl, k⟩
  replace B := below_chain B k
  clear k
  go_wp2_with fail
  refine (y4 _).mono ?_
  rintro e W10 ⟨rfl, k⟩
  replace B := below_chain B k
  clear k
  go_wp2_with fail
  refine (awake_any _ (HL.out.below B)).mono ?_
  rintro e W11 ⟨rfl, k⟩
  replace B := below_chain B k
  clear k
  go_wp2_with fail
  go_ret
  exact ⟨rfl, B⟩

theorem labelPrefixes_any (s : ByteArray) (a b : Int) (hs : s.size ≤ 9223372036854775807) (w : World) (hL : Laid w) :
    Calls Tryd.prog 9 #[.string s, .int .i64 a, .int .i64 b] w fun e w' => e = .returned (.bool true) ∧ Below w.heap.size w w' := by
  by_cases h1 : 100 < s.size
  · exact prefixes_long s a b h1 hs w hL
  have h1' : s.size ≤ 100 := by omega
  have hz : s.size ≤ 281474976710656 := by omega
  cases hm : mayL s.data.toList with
  | false => exact prefixes_no s a b h1' (may_at s false hm hz) w hL
  | true =>
    obtain ⟨C, hC⟩ : ∃ C : Int → ByteArray, ∀ c, (C c).data.toList = clipL s.data.toList c := ⟨fun c => ⟨(clipL s.data.toList c).toArray⟩, fun _ => rfl⟩
    have hcl (c : Int) (h0 : 0 ≤ c) (h2 : c ≤ 100) := clip_at s c (C c) (hC c).symm hz (by omega) (by omega)
    have hpre (m M : Int) (h : m ≤ M) : (C m).size ≤ (C M).size ∧ (((C M).extract 0 (C m).size).toList == (C m).toList) = true := by
      obtain ⟨q, hq⟩ := clip_pre hm h
      have e : (C M).data.toList = (C m).data.toList ++ q := by rw [hC, hC, hq]
      refine ⟨by rw [Lib.size_eq, Lib.size_eq, e, List.length_append]; omega, ?_⟩
      rw [beq_iff_eq, Lib.extract_toList, Lib.toList_data, Lib.size_eq, e]
      simp
    have hsz (M : Int) : (C M).size ≤ 100 := by
      obtain ⟨q, hq⟩ := clipR_is (runes s.data.toList) M
      have e : s.data.toList = (C M).data.toList ++ enc q := by rw [hC, clipL_may hm, ← enc_append, ← hq, may_enc hm]
      have := congrArg List.length e
      rw [List.length_append, ← Lib.size_eq, ← Lib.size_eq] at this
      omega
    have hA := columns_bd hm
    have hfull (c : Int) (h : columnsL s.data.toList ≤ c) : C c = s := by
      apply ByteArray.ext
      apply Array.toList_inj.1
      rw [hC, clip_full hm h]
    have hdif : ((C (columnsL s.data.toList - 1)).toList == s.toList) = false := by
      rw [beq_eq_false_iff_ne, Lib.toList_data, Lib.toList_data, hC]
      exact clip_less hm (by omega) (by omega)
    have hzero : C 0 = ⟨#[]⟩ := by
      apply ByteArray.ext
      apply Array.toList_inj.1
      rw [hC, clip_zero]
    have m1 := may_at s true hm hz
    have c1 := columns_at s _ rfl hz
    have y1 := hcl (columnsL s.data.toList) (by omega) (by omega)
    rw [hfull _ (by omega)] at y1
    have y2 := hcl (columnsL s.data.toList + 1) (by omega) (by omega)
    rw [hfull _ (by omega)] at y2
    have y3 := hcl (columnsL s.data.toList - 1) (by omega) (by omega)
    have y4 := hcl 0 (by omega) (by omega)
    rw [hzero] at y4
    have l1 := fun w => low_any a 30 (by omega) (by omega) w
    have l2 := fun w => low_any b 30 (by omega) (by omega) w
    have hp := lowM_bd a 30 (by omega)
    have hq := lowM_bd b 30 (by omega)
    have yy (c : Int) (h : columnsL s.data.toList ≤ c) : ((C c).toList == s.toList) = true := by rw [hfull c h]; exact beq_self_eq_true _
    by_cases hpq : lowM a 30 ≤ lowM b 30
    · obtain ⟨k1, k2⟩ := hpre _ _ hpq
      by_cases hl : lowM b 30 < columnsL s.data.toList
      · exact prefixes_le_less s _ _ _ a b _ _ _ h1' hA.1 hA.2 hp.1 hp.2 hq.1 hq.2 hpq hl k1 (hsz _) k2 hdif l1 l2 m1 (hcl _ (by omega) (by omega)) (hcl _ (by omega) (by omega)) c1 y1 y2 y3 y4 w hL
      · exact prefixes_le_full s _ _ _ a b _ _ _ h1' hA.1 hA.2 hp.1 hp.2 hq.1 hq.2 hpq (by omega) (yy _ (by omega)) k1 (hsz _) k2 hdif l1 l2 m1 (hcl _ (by omega) (by omega)) (hcl _ (by omega) (by omega)) c1 y1 y2 y3 y4 w hL
    · obtain ⟨k1, k2⟩ := hpre (lowM b 30) (lowM a 30) (by omega)
      by_cases hl : lowM a 30 < columnsL s.data.toList
      · exact prefixes_gt_less s _ _ _ a b _ _ _ h1' hA.1 hA.2 hp.1 hp.2 hq.1 hq.2 (by omega) hl k1 (hsz _) k2 hdif l1 l2 m1 (hcl _ (by omega) (by omega)) (hcl _ (by omega) (by omega)) c1 y1 y2 y3 y4 w hL
      · exact prefixes_gt_full s _ _ _ a b _ _ _ h1' hA.1 hA.2 hp.1 hp.2 hq.1 hq.2 (by omega) (by omega) (yy _ (by omega)) k1 (hsz _) k2 hdif l1 l2 m1 (hcl _ (by omega) (by omega)) (hcl _ (by omega) (by omega)) c1 y1 y2 y3 y4 w hL
end Go.Proofs.YtbeliifgflgboaaDoor
