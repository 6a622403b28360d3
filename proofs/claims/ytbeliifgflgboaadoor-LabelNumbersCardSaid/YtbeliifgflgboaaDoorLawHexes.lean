/- LabelHexes, walked: whatever the two numbers, it answers true. Condition: what the listed variables hold. -/
import Derived.Test.YtbeliifgflgboaaDoorAwake
import Derived.Test.YtbeliifgflgboaaDoorHexMath
set_option linter.unusedVariables false
set_option linter.unusedSimpArgs false
namespace Go.Proofs.YtbeliifgflgboaaDoor
open Go.RowKit

theorem pre_hexF (l : List UInt8) : Lib.hasPrefix (48 :: 120 :: l) [48, 120] = true := by simp [Lib.hasPrefix]
theorem trim_hexF (l : List UInt8) : Lib.trimPrefix (48 :: 120 :: l) [48, 120] = l := by
  unfold Lib.trimPrefix
  rw [pre_hexF, if_pos rfl]
  rfl
theorem num_more (a : Nat) (h0 : 0 < a) (h : a < 1152921504606846976) : numL (hexF a ++ [48]) = (16 * a, true) := by
  have e : hexF a ++ [48] = hexF (16 * a) := by
    unfold hexF
    rw [hexL_more a h0 h]
    rfl
  have hp : parseL (Lib.trimPrefix (hexF (16 * a)) [48, 120]) = .ok (16 * a) := by
    unfold hexF
    rw [trim_hexF]
    unfold parseL
    have := hexL_pos (16 * a)
    rw [if_neg (by intro e; rw [e] at this; simp at this)]
    exact parse16_hexL _ (by omega)
  rw [e, numL_ok (l := hexF (16 * a)) (pre_hexF _) hp, if_pos rfl]
theorem num_not (a : Nat) (h : a < 18446744073709551616) (h0 : ¬ (0 < a ∧ a < 1152921504606846976)) : numL (hexF a ++ [48]) = (0, false) := by
  have e : hexF a ++ [48] = 48 :: 120 :: (hexL a ++ [48]) := rfl
  have hp : parseL (Lib.trimPrefix (48 :: 120 :: (hexL a ++ [48])) [48, 120]) = if 1152921504606846976 ≤ a then .range else .ok (a * 16) := by
    rw [trim_hexF]
    unfold parseL
    rw [if_neg (by simp)]
    exact parse_more a h
  rw [e]
  by_cases h1 : 1152921504606846976 ≤ a
  · rw [if_pos h1] at hp
    exact numL_err (pre_hexF _) (fun u hu => by rw [hp] at hu; simp at hu)
  · rw [if_neg h1] at hp
    obtain rfl : a = 0 := by omega
    rw [numL_ok (pre_hexF _) hp]
    decide +kernel

/- what Hex gives, under a name -/
theorem hex_named (n : Nat) (hn : n < 18446744073709551616) (X : ByteArray) (hX : X = ⟨(hexF n).toArray⟩) (w : World) (hL : Laid w) :
    Calls Tryd.prog 25 #[.int .u64 n] w fun e w' => e = .returned (.string X) ∧ Below w.heap.size w w' := by
  rw [hX]
  exact hex_any n hn w hL.tab hL.h4
theorem number_at (s : ByteArray) (hs : s.size ≤ 281474976710656) (n : Nat) (b : Bool) (h : numL s.data.toList = (n, b)) (w : World) (hL : Laid w) :
    Calls Tryd.prog 23 #[.string s] w fun e w' => e = .returned (.tuple #[.int .u64 n, .bool b]) ∧ Below w.heap.size w w' := by
  have := number_ret s hs w hL
  rw [h] at this
  exact this

set_option maxHeartbeats 2000000 in
set_option maxRecDepth 100000 in
theorem core_ltlt_yes (a b m : Int) (X Y : ByteArray) (ha0 : 0 ≤ a) (hb0 : 0 ≤ b) (q1 : (X.toList == Y.toList) = false) (q2 : (a == b) = false) (q3 : X.size < Y.size) (q4 : a < b) (hXs : X.size ≤ 20) (hYs : Y.size ≤ 20) (hx : ∀ w, Laid w → Calls Tryd.prog 25 #[.int .u64 a] w fun e w' => e = .returned (.string X) ∧ Below w.heap.size w w') (hy : ∀ w, Laid w → Calls Tryd.prog 25 #[.int .u64 b] w fun e w' => e = .returned (.string Y) ∧ Below w.heap.size w w')
    (hn : ∀ w, Laid w → Calls Tryd.prog 23 #[.string (X ++ ⟨#[48]⟩)] w fun e w' => e = .returned (.tuple #[.int .u64 m, .bool true]) ∧ Below w.heap.size w w') (hm : (m == 16 * a) = true) (hs0 : 0 < a) (hs1 : a < 1152921504606846976) (w : World) (hL : Laid w) :
    Calls Tryd.prog 6 #[.int .u64 a, .int .u64 b] w fun e w' => e = .returned (.bool true) ∧ Below w.heap.size w w' := by
  have HL := Lib.hid hL
  clear hL
  go_enter Tryd.func6, Tryd.ntmps6
  go_wp2_with fail
  refine (hx _ HL.out).mono ?_
  rintro e W1 ⟨rfl, hb1⟩
  go_wp2_with fail
  refine (hy _ (HL.out.below hb1)).mono ?_
  rintro e W2 ⟨rfl, hb2⟩
  have hb12 := below_chain hb1 hb2
  clear hb1 hb2
  go_wp2_with fail
  refine (hn _ (HL.out.below hb12)).mono ?_
  rintro e W3 ⟨rfl, hb3⟩
  have hb13 := below_chain hb12 hb3
  clear hb12 hb3
  go_wp2_with fail
  refine (awake_any _ (HL.out.below hb13)).mono ?_
  rintro e W4 ⟨rfl, hb4⟩
  go_wp2_with fail
  go_ret
  exact ⟨rfl, below_chain hb13 hb4⟩

set_option maxHeartbeats 2000000 in
set_option maxRecDepth 100000 in
theorem core_ltlt_no0 (a b m : Int) (X Y : ByteArray) (ha0 : 0 ≤ a) (hb0 : 0 ≤ b) (q1 : (X.toList == Y.toList) = false) (q2 : (a == b) = false) (q3 : X.size < Y.size) (q4 : a < b) (hXs : X.size ≤ 20) (hYs : Y.size ≤ 20) (hx : ∀ w, Laid w → Calls Tryd.prog 25 #[.int .u64 a] w fun e w' => e = .returned (.string X) ∧ Below w.heap.size w w') (hy : ∀ w, Laid w → Calls Tryd.prog 25 #[.int .u64 b] w fun e w' => e = .returned (.string Y) ∧ Below w.heap.size w w')
    (hn : ∀ w, Laid w → Calls Tryd.prog 23 #[.string (X ++ ⟨#[48]⟩)] w fun e w' => e = .returned (.tuple #[.int .u64 m, .bool false]) ∧ Below w.heap.size w w') (hs0 : a ≤ 0) (w : World) (hL : Laid w) :
    Calls Tryd.prog 6 #[.int .u64 a, .int .u64 b] w fun e w' => e = .returned (.bool true) ∧ Below w.heap.size w w' := by
  have HL := Lib.hid hL
  clear hL
  go_enter Tryd.func6, Tryd.ntmps6
  go_wp2_with fail
  refine (hx _ HL.out).mono ?_
  rintro e W1 ⟨rfl, hb1⟩
  go_wp2_with fail
  refine (hy _ (HL.out.below hb1)).mono ?_
  rintro e W2 ⟨rfl, hb2⟩
  have hb12 := below_chain hb1 hb2
  clear hb1 hb2
  go_wp2_with fail
  refine (hn _ (HL.out.below hb12)).mono ?_
  rintro e W3 ⟨rfl, hb3⟩
  have hb13 := below_chain hb12 hb3
  clear hb12 hb3
  go_wp2_with fail
  refine (awake_any _ (HL.out.below hb13)).mono ?_
  rintro e W4 ⟨rfl, hb4⟩
  go_wp2_with fail
  go_ret
  exact ⟨rfl, below_chain hb13 hb4⟩

set_option maxHeartbeats 2000000 in
set_option maxRecDepth 100000 in
theorem core_ltlt_no1 (a b m : Int) (X Y : ByteArray) (ha0 : 0 ≤ a) (hb0 : 0 ≤ b) (q1 : (X.toList == Y.toList) = false) (q2 : (a == b) = false) (q3 : X.size < Y.size) (q4 : a < b) (hXs : X.size ≤ 20) (hYs : Y.size ≤ 20) (hx : ∀ w, Laid w → Calls Tryd.prog 25 #[.int .u64 a] w fun e w' => e = .returned (.string X) ∧ Below w.heap.size w w') (hy : ∀ w, Laid w → Calls Tryd.prog 25 #[.int .u64 b] w fun e w' => e = .returned (.string Y) ∧ Below w.heap.size w w')
    (hn : ∀ w, Laid w → Calls Tryd.prog 23 #[.string (X ++ ⟨#[48]⟩)] w fun e w' => e = .returned (.tuple #[.int .u64 m, .bool false]) ∧ Below w.heap.size w w') (hs0 : 0 < a) (hs1 : 1152921504606846976 ≤ a) (w : World) (hL : Laid w) :
    Calls Tryd.prog 6 #[.int .u64 a, .int .u64 b] w fun e w' => e = .returned (.bool true) ∧ Below w.heap.size w w' := by
  have HL := Lib.hid hL
  clear hL
  go_enter Tryd.func6, Tryd.ntmps6
  go_wp2_with fail
  refine (hx _ HL.out).mono ?_
  rintro e W1 ⟨rfl, hb1⟩
  go_wp2_with fail
  refine (hy _ (HL.out.below hb1)).mono ?_
  rintro e W2 ⟨rfl, hb2⟩
  have hb12 := below_chain hb1 hb2
  clear hb1 hb2
  go_wp2_with fail
  refine (hn _ (HL.out.below hb12)).mono ?_
  rintro e W3 ⟨rfl, hb3⟩
  have hb13 := below_chain hb12 hb3
  clear hb12 hb3
  go_wp2_with fail
  refine (awake_any _ (HL.out.below hb13)).mono ?_
  rintro e W4 ⟨rfl, hb4⟩
  go_wp2_with fail
  go_ret
  exact ⟨rfl, below_chain hb13 hb4⟩

set_option maxHeartbeats 2000000 in
set_option maxRecDepth 100000 in
theorem core_lteq_yes (a b m : Int) (X Y : ByteArray) (ha0 : 0 ≤ a) (hb0 : 0 ≤ b) (q1 : (X.toList == Y.toList) = false) (q2 : (a == b) = false) (q3 : X.size ≤ Y.size) (q3' : Y.size ≤ X.size) (q4 : a < b) (q5 : Op.bytesLess X.toList Y.toList = true) (hXs : X.size ≤ 20) (hYs : Y.size ≤ 20) (hx : ∀ w, Laid w → Calls Tryd.prog 25 #[.int .u64 a] w fun e w' => e = .returned (.string X) ∧ Below w.heap.size w w') (hy : ∀ w, Laid w → Calls Tryd.prog 25 #[.int .u64 b] w fun e w' => e = .returned (.string Y) ∧ Below w.heap.size w w')
    (hn : ∀ w, Laid w → Calls Tryd.prog 23 #[.string (X ++ ⟨#[48]⟩)] w fun e w' => e = .returned (.tuple #[.int .u64 m, .bool true]) ∧ Below w.heap.size w w') (hm : (m == 16 * a) = true) (hs0 : 0 < a) (hs1 : a < 1152921504606846976) (w : World) (hL : Laid w) :
    Calls Tryd.prog 6 #[.int .u64 a, .int .u64 b] w fun e w' => e = .returned (.bool true) ∧ Below w.heap.size w w' := by
  have HL := Lib.hid hL
  clear hL
  go_enter Tryd.func6, Tryd.ntmps6
  go_wp2_with fail
  refine (hx _ HL.out).mono ?_
  rintro e W1 ⟨rfl, hb1⟩
  go_wp2_with fail
  refine (hy _ (HL.out.below hb1)).mono ?_
  rintro e W2 ⟨rfl, hb2⟩
  have hb12 := below_chain hb1 hb2
  clear hb1 hb2
  go_wp2_with fail
  refine (hn _ (HL.out.below hb12)).mono ?_
  rintro e W3 ⟨rfl, hb3⟩
  have hb13 := below_chain hb12 hb3
  clear hb12 hb3
  go_wp2_with fail
  refine (awake_any _ (HL.out.below hb13)).mono ?_
  rintro e W4 ⟨rfl, hb4⟩
  go_wp2_with fail
  go_ret
  exact ⟨rfl, below_chain hb13 hb4⟩

set_option maxHeartbeats 2000000 in
set_option maxRecDepth 100000 in
theorem core_lteq_no0 (a b m : Int) (X Y : ByteArray) (ha0 : 0 ≤ a) (hb0 : 0 ≤ b) (q1 : (X.toList == Y.toList) = false) (q2 : (a == b) = false) (q3 : X.size ≤ Y.size) (q3' : Y.size ≤ X.size) (q4 : a < b) (q5 : Op.bytesLess X.toList Y.toList = true) (hXs : X.size ≤ 20) (hYs : Y.size ≤ 20) (hx : ∀ w, Laid w → Calls Tryd.prog 25 #[.int .u64 a] w fun e w' => e = .returned (.string X) ∧ Below w.heap.size w w') (hy : ∀ w, Laid w → Calls Tryd.prog 25 #[.int .u64 b] w fun e w' => e = .returned (.string Y) ∧ Below w.heap.size w w')
    (hn : ∀ w, Laid w → Calls Tryd.prog 23 #[.string (X ++ ⟨#[48]⟩)] w fun e w' => e = .returned (.tuple #[.int .u64 m, .bool false]) ∧ Below w.heap.size w w') (hs0 : a ≤ 0) (w : World) (hL : Laid w) :
    Calls Tryd.prog 6 #[.int .u64 a, .int .u64 b] w fun e w' => e = .returned (.bool true) ∧ Below w.heap.size w w' := by
  have HL := Lib.hid hL
  clear hL
  go_enter Tryd.func6, Tryd.ntmps6
  go_wp2_with fail
  refine (hx _ HL.out).mono ?_
  rintro e W1 ⟨rfl, hb1⟩
  go_wp2_with fail
  refine (hy _ (HL.out.below hb1)).mono ?_
  rintro e W2 ⟨rfl, hb2⟩
  have hb12 := below_chain hb1 hb2
  clear hb1 hb2
  go_wp2_with fail
  refine (hn _ (HL.out.below hb12)).mono ?_
  rintro e W3 ⟨rfl, hb3⟩
  have hb13 := below_chain hb12 hb3
  clear hb12 hb3
  go_wp2_with fail
  refine (awake_any _ (HL.out.below hb13)).mono ?_
  rintro e W4 ⟨rfl, hb4⟩
  go_wp2_with fail
  go_ret
  exact ⟨rfl, below_chain hb13 hb4⟩

set_option maxHeartbeats 2000000 in
set_option maxRecDepth 100000 in
theorem core_lteq_no1 (a b m : Int) (X Y : ByteArray) (ha0 : 0 ≤ a) (hb0 : 0 ≤ b) (q1 : (X.toList == Y.toList) = false) (q2 : (a == b) = false) (q3 : X.size ≤ Y.size) (q3' : Y.size ≤ X.size) (q4 : a < b) (q5 : Op.bytesLess X.toList Y.toList = true) (hXs : X.size ≤ 20) (hYs : Y.size ≤ 20) (hx : ∀ w, Laid w → Calls Tryd.prog 25 #[.int .u64 a] w fun e w' => e = .returned (.string X) ∧ Below w.heap.size w w') (hy : ∀ w, Laid w → Calls Tryd.prog 25 #[.int .u64 b] w fun e w' => e = .returned (.string Y) ∧ Below w.heap.size w w')
    (hn : ∀ w, Laid w → Calls Tryd.prog 23 #[.string (X ++ ⟨#[48]⟩)] w fun e w' => e = .returned (.tuple #[.int .u64 m, .bool false]) ∧ Below w.heap.size w w') (hs0 : 0 < a) (hs1 : 1152921504606846976 ≤ a) (w : World) (hL : Laid w) :
    Calls Tryd.prog 6 #[.int .u64 a, .int .u64 b] w fun e w' => e = .returned (.bool true) ∧ Below w.heap.size w w' := by
  have HL := Lib.hid hL
  clear hL
  go_enter Tryd.func6, Tryd.ntmps6
  go_wp2_with fail
  refine (hx _ HL.out).mono ?_
  rintro e W1 ⟨rfl, hb1⟩
  go_wp2_with fail
  refine (hy _ (HL.out.below hb1)).mono ?_
  rintro e W2 ⟨rfl, hb2⟩
  have hb12 := below_chain hb1 hb2
  clear hb1 hb2
  go_wp2_with fail
  refine (hn _ (HL.out.below hb12)).mono ?_
  rintro e W3 ⟨rfl, hb3⟩
  have hb13 := below_chain hb12 hb3
  clear hb12 hb3
  go_wp2_with fail
  refine (awake_any _ (HL.out.below hb13)).mono ?_
  rintro e W4 ⟨rfl, hb4⟩
  go_wp2_with fail
  go_ret
  exact ⟨rfl, below_chain hb13 hb4⟩

set_option maxHeartbeats 2000000 in
set_option maxRecDepth 100000 in
theorem core_gteq_yes (a b m : Int) (X Y : ByteArray) (ha0 : 0 ≤ a) (hb0 : 0 ≤ b) (q1 : (X.toList == Y.toList) = false) (q2 : (a == b) = false) (q3 : X.size ≤ Y.size) (q3' : Y.size ≤ X.size) (q4 : b < a) (q5 : Op.bytesLess X.toList Y.toList = false) (hXs : X.size ≤ 20) (hYs : Y.size ≤ 20) (hx : ∀ w, Laid w → Calls Tryd.prog 25 #[.int .u64 a] w fun e w' => e = .returned (.string X) ∧ Below w.heap.size w w') (hy : ∀ w, Laid w → Calls Tryd.prog 25 #[.int .u64 b] w fun e w' => e = .returned (.string Y) ∧ Below w.heap.size w w')
    (hn : ∀ w, Laid w → Calls Tryd.prog 23 #[.string (X ++ ⟨#[48]⟩)] w fun e w' => e = .returned (.tuple #[.int .u64 m, .bool true]) ∧ Below w.heap.size w w') (hm : (m == 16 * a) = true) (hs0 : 0 < a) (hs1 : a < 1152921504606846976) (w : World) (hL : Laid w) :
    Calls Tryd.prog 6 #[.int .u64 a, .int .u64 b] w fun e w' => e = .returned (.bool true) ∧ Below w.heap.size w w' := by
  have HL := Lib.hid hL
  clear hL
  go_enter Tryd.func6, Tryd.ntmps6
  go_wp2_with fail
  refine (hx _ HL.out).mono ?_
  rintro e W1 ⟨rfl, hb1⟩
  go_wp2_with fail
  refine (hy _ (HL.out.below hb1)).mono ?_
  rintro e W2 ⟨rfl, hb2⟩
  have hb12 := below_chain hb1 hb2
  clear hb1 hb2
  go_wp2_with fail
  refine (hn _ (HL.out.below hb12)).mono ?_
  rintro e W3 ⟨rfl, hb3⟩
  have hb13 := below_chain hb12 hb3
  clear hb12 hb3
  go_wp2_with fail
  refine (awake_any _ (HL.out.below hb13)).mono ?_
  rintro e W4 ⟨rfl, hb4⟩
  go_wp2_with fail
  go_ret
  exact ⟨rfl, below_chain hb13 hb4⟩

set_option maxHeartbeats 2000000 in
set_option maxRecDepth 100000 in
theorem core_gteq_no1 (a b m : Int) (X Y : ByteArray) (ha0 : 0 ≤ a) (hb0 : 0 ≤ b) (q1 : (X.toList == Y.toList) = false) (q2 : (a == b) = false) (q3 : X.size ≤ Y.size) (q3' : Y.size ≤ X.size) (q4 : b < a) (q5 : Op.bytesLess X.toList Y.toList = false) (hXs : X.size ≤ 20) (hYs : Y.size ≤ 20) (hx : ∀ w, Laid w → Calls Tryd.prog 25 #[.int .u64 a] w fun e w' => e = .returned (.string X) ∧ Below w.heap.size w w') (hy : ∀ w, Laid w → Calls Tryd.prog 25 #[.int .u64 b] w fun e w' => e = .returned (.string Y) ∧ Below w.heap.size w w')
    (hn : ∀ w, Laid w → Calls Tryd.prog 23 #[.string (X ++ ⟨#[48]⟩)] w fun e w' => e = .returned (.tuple #[.int .u64 m, .bool false]) ∧ Below w.heap.size w w') (hs0 : 0 < a) (hs1 : 1152921504606846976 ≤ a) (w : World) (hL : Laid w) :
    Calls Tryd.prog 6 #[.int .u64 a, .int .u64 b] w fun e w' => e = .returned (.bool true) ∧ Below w.heap.size w w' := by
  have HL := Lib.hid hL
  clear hL
  go_enter Tryd.func6, Tryd.ntmps6
  go_wp2_with fail
  refine (hx _ HL.out).mono ?_
  rintro e W1 ⟨rfl, hb1⟩
  go_wp2_with fail
  refine (hy _ (HL.out.below hb1)).mono ?_
  rintro e W2 ⟨rfl, hb2⟩
  have hb12 := below_chain hb1 hb2
  clear hb1 hb2
  go_wp2_with fail
  refine (hn _ (HL.out.below hb12)).mono ?_
  rintro e W3 ⟨rfl, hb3⟩
  have hb13 := below_chain hb12 hb3
  clear hb12 hb3
  go_wp2_with fail
  refine (awake_any _ (HL.out.below hb13)).mono ?_
  rintro e W4 ⟨rfl, hb4⟩
  go_wp2_with fail
  go_ret
  exact ⟨rfl, below_chain hb13 hb4⟩

set_option maxHeartbeats 2000000 in
set_option maxRecDepth 100000 in
theorem core_gtgt_yes (a b m : Int) (X Y : ByteArray) (ha0 : 0 ≤ a) (hb0 : 0 ≤ b) (q1 : (X.toList == Y.toList) = false) (q2 : (a == b) = false) (q3 : Y.size < X.size) (q4 : b < a) (hXs : X.size ≤ 20) (hYs : Y.size ≤ 20) (hx : ∀ w, Laid w → Calls Tryd.prog 25 #[.int .u64 a] w fun e w' => e = .returned (.string X) ∧ Below w.heap.size w w') (hy : ∀ w, Laid w → Calls Tryd.prog 25 #[.int .u64 b] w fun e w' => e = .returned (.string Y) ∧ Below w.heap.size w w')
    (hn : ∀ w, Laid w → Calls Tryd.prog 23 #[.string (X ++ ⟨#[48]⟩)] w fun e w' => e = .returned (.tuple #[.int .u64 m, .bool true]) ∧ Below w.heap.size w w') (hm : (m == 16 * a) = true) (hs0 : 0 < a) (hs1 : a < 1152921504606846976) (w : World) (hL : Laid w) :
    Calls Tryd.prog 6 #[.int .u64 a, .int .u64 b] w fun e w' => e = .returned (.bool true) ∧ Below w.heap.size w w' := by
  have HL := Lib.hid hL
  clear hL
  go_enter Tryd.func6, Tryd.ntmps6
  go_wp2_with fail
  refine (hx _ HL.out).mono ?_
  rintro e W1 ⟨rfl, hb1⟩
  go_wp2_with fail
  refine (hy _ (HL.out.below hb1)).mono ?_
  rintro e W2 ⟨rfl, hb2⟩
  have hb12 := below_chain hb1 hb2
  clear hb1 hb2
  go_wp2_with fail
  refine (hn _ (HL.out.below hb12)).mono ?_
  rintro e W3 ⟨rfl, hb3⟩
  have hb13 := below_chain hb12 hb3
  clear hb12 hb3
  go_wp2_with fail
  refine (awake_any _ (HL.out.below hb13)).mono ?_
  rintro e W4 ⟨rfl, hb4⟩
  go_wp2_with fail
  go_ret
  exact ⟨rfl, below_chain hb13 hb4⟩

set_option maxHeartbeats 2000000 in
set_option maxRecDepth 100000 in
theorem core_gtgt_no1 (a b m : Int) (X Y : ByteArray) (ha0 : 0 ≤ a) (hb0 : 0 ≤ b) (q1 : (X.toList == Y.toList) = false) (q2 : (a == b) = false) (q3 : Y.size < X.size) (q4 : b < a) (hXs : X.size ≤ 20) (hYs : Y.size ≤ 20) (hx : ∀ w, Laid w → Calls Tryd.prog 25 #[.int .u64 a] w fun e w' => e = .returned (.string X) ∧ Below w.heap.size w w') (hy : ∀ w, Laid w → Calls Tryd.prog 25 #[.int .u64 b] w fun e w' => e = .returned (.string Y) ∧ Below w.heap.size w w')
    (hn : ∀ w, Laid w → Calls Tryd.prog 23 #[.string (X ++ ⟨#[48]⟩)] w fun e w' => e = .returned (.tuple #[.int .u64 m, .bool false]) ∧ Below w.heap.size w w') (hs0 : 0 < a) (hs1 : 1152921504606846976 ≤ a) (w : World) (hL : Laid w) :
    Calls Tryd.prog 6 #[.int .u64 a, .int .u64 b] w fun e w' => e = .returned (.bool true) ∧ Below w.heap.size w w' := by
  have HL := Lib.hid hL
  clear hL
  go_enter Tryd.func6, Tryd.ntmps6
  go_wp2_with fail
  refine (hx _ HL.out).mono ?_
  rintro e W1 ⟨rfl, hb1⟩
  go_wp2_with fail
  refine (hy _ (HL.out.below hb1)).mono ?_
  rintro e W2 ⟨rfl, hb2⟩
  have hb12 := below_chain hb1 hb2
  clear hb1 hb2
  go_wp2_with fail
  refine (hn _ (HL.out.below hb12)).mono ?_
  rintro e W3 ⟨rfl, hb3⟩
  have hb13 := below_chain hb12 hb3
  clear hb12 hb3
  go_wp2_with fail
  refine (awake_any _ (HL.out.below hb13)).mono ?_
  rintro e W4 ⟨rfl, hb4⟩
  go_wp2_with fail
  go_ret
  exact ⟨rfl, below_chain hb13 hb4⟩

set_option maxHeartbeats 2000000 in
set_option maxRecDepth 100000 in
theorem core_same_yes (a m : Int) (X : ByteArray) (ha0 : 0 ≤ a) (q5 : Op.bytesLess X.toList X.toList = false) (hXs : X.size ≤ 20) (hx : ∀ w, Laid w → Calls Tryd.prog 25 #[.int .u64 a] w fun e w' => e = .returned (.string X) ∧ Below w.heap.size w w')
    (hn : ∀ w, Laid w → Calls Tryd.prog 23 #[.string (X ++ ⟨#[48]⟩)] w fun e w' => e = .returned (.tuple #[.int .u64 m, .bool true]) ∧ Below w.heap.size w w') (hm : (m == 16 * a) = true) (hs0 : 0 < a) (hs1 : a < 1152921504606846976) (w : World) (hL : Laid w) :
    Calls Tryd.prog 6 #[.int .u64 a, .int .u64 a] w fun e w' => e = .returned (.bool true) ∧ Below w.heap.size w w' := by
  have HL := Lib.hid hL
  clear hL
  go_enter Tryd.func6, Tryd.ntmps6
  go_wp2_with fail
  refine (hx _ HL.out).mono ?_
  rintro e W1 ⟨rfl, hb1⟩
  go_wp2_with fail
  refine (hx _ (HL.out.below hb1)).mono ?_
  rintro e W2 ⟨rfl, hb2⟩
  have hb12 := below_chain hb1 hb2
  clear hb1 hb2
  go_wp2_with fail
  refine (hn _ (HL.out.below hb12)).mono ?_
  rintro e W3 ⟨rfl, hb3⟩
  have hb13 := below_chain hb12 hb3
  clear hb12 hb3
  go_wp2_with fail
  refine (awake_any _ (HL.out.below hb13)).mono ?_
  rintro e W4 ⟨rfl, hb4⟩
  go_wp2_with fail
  go_ret
  exact ⟨rfl, below_chain hb13 hb4⟩

set_option maxHeartbeats 2000000 in
set_option maxRecDepth 100000 in
theorem core_same_no0 (a m : Int) (X : ByteArray) (ha0 : 0 ≤ a) (q5 : Op.bytesLess X.toList X.toList = false) (hXs : X.size ≤ 20) (hx : ∀ w, Laid w → Calls Tryd.prog 25 #[.int .u64 a] w fun e w' => e = .returned (.string X) ∧ Below w.heap.size w w')
    (hn : ∀ w, Laid w → Calls Tryd.prog 23 #[.string (X ++ ⟨#[48]⟩)] w fun e w' => e = .returned (.tuple #[.int .u64 m, .bool false]) ∧ Below w.heap.size w w') (hs0 : a ≤ 0) (w : World) (hL : Laid w) :
    Calls Tryd.prog 6 #[.int .u64 a, .int .u64 a] w fun e w' => e = .returned (.bool true) ∧ Below w.heap.size w w' := by
  have HL := Lib.hid hL
  clear hL
  go_enter Tryd.func6, Tryd.ntmps6
  go_wp2_with fail
  refine (hx _ HL.out).mono ?_
  rintro e W1 ⟨rfl, hb1⟩
  go_wp2_with fail
  refine (hx _ (HL.out.below hb1)).mono ?_
  rintro e W2 ⟨rfl, hb2⟩
  have hb12 := below_chain hb1 hb2
  clear hb1 hb2
  go_wp2_with fail
  refine (hn _ (HL.out.below hb12)).mono ?_
  rintro e W3 ⟨rfl, hb3⟩
  have hb13 := below_chain hb12 hb3
  clear hb12 hb3
  go_wp2_with fail
  refine (awake_any _ (HL.out.below hb13)).mono ?_
  rintro e W4 ⟨rfl, hb4⟩
  go_wp2_with fail
  go_ret
  exact ⟨rfl, below_chain hb13 hb4⟩

set_option maxHeartbeats 2000000 in
set_option maxRecDepth 100000 in
theorem core_same_no1 (a m : Int) (X : ByteArray) (ha0 : 0 ≤ a) (q5 : Op.bytesLess X.toList X.toList = false) (hXs : X.size ≤ 20) (hx : ∀ w, Laid w → Calls Tryd.prog 25 #[.int .u64 a] w fun e w' => e = .returned (.string X) ∧ Below w.heap.size w w')
    (hn : ∀ w, Laid w → Calls Tryd.prog 23 #[.string (X ++ ⟨#[48]⟩)] w fun e w' => e = .returned (.tuple #[.int .u64 m, .bool false]) ∧ Below w.heap.size w w') (hs0 : 0 < a) (hs1 : 1152921504606846976 ≤ a) (w : World) (hL : Laid w) :
    Calls Tryd.prog 6 #[.int .u64 a, .int .u64 a] w fun e w' => e = .returned (.bool true) ∧ Below w.heap.size w w' := by
  have HL := Lib.hid hL
  clear hL
  go_enter Tryd.func6, Tryd.ntmps6
  go_wp2_with fail
  refine (hx _ HL.out).mono ?_
  rintro e W1 ⟨rfl, hb1⟩
  go_wp2_with fail
  refine (hx _ (HL.out.below hb1)).mono ?_
  rintro e W2 ⟨rfl, hb2⟩
  have hb12 := below_chain hb1 hb2
  clear hb1 hb2
  go_wp2_with fail
  refine (hn _ (HL.out.below hb12)).mono ?_
  rintro e W3 ⟨rfl, hb3⟩
  have hb13 := below_chain hb12 hb3
  clear hb12 hb3
  go_wp2_with fail
  refine (awake_any _ (HL.out.below hb13)).mono ?_
  rintro e W4 ⟨rfl, hb4⟩
  go_wp2_with fail
  go_ret
  exact ⟨rfl, below_chain hb13 hb4⟩

theorem labelHexes_any (a b : Nat) (ha : a < 18446744073709551616) (hb : b < 18446744073709551616) (w : World) (hL : Laid w) :
    Calls Tryd.prog 6 #[.int .u64 a, .int .u64 b] w fun e w' => e = .returned (.bool true) ∧ Below w.heap.size w w' := by
  obtain ⟨X, hX⟩ : ∃ X : ByteArray, X = ⟨(hexF a).toArray⟩ := ⟨_, rfl⟩
  obtain ⟨Y, hY⟩ : ∃ Y : ByteArray, Y = ⟨(hexF b).toArray⟩ := ⟨_, rfl⟩
  have hXl : X.toList = hexF a := by rw [Lib.toList_data, hX]
  have hYl : Y.toList = hexF b := by rw [Lib.toList_data, hY]
  have hXs : X.size = (hexF a).length := by rw [Lib.size_eq, hX]
  have hYs : Y.size = (hexF b).length := by rw [Lib.size_eq, hY]
  have hX20 : X.size ≤ 20 := by rw [hXs]; have := hexL_len a; simp [hexF]; omega
  have hY20 : Y.size ≤ 20 := by rw [hYs]; have := hexL_len b; simp [hexF]; omega
  have hx := hex_named a ha X hX
  have hy := hex_named b hb Y hY
  have hcat : (X ++ ⟨#[48]⟩ : ByteArray).data.toList = hexF a ++ [48] := by
    rw [ByteArray.data_append, Array.toList_append, hX]
  have hcs : (X ++ ⟨#[48]⟩ : ByteArray).size ≤ 281474976710656 := by
    rw [ByteArray.size_append]
    have : (⟨#[48]⟩ : ByteArray).size = 1 := rfl
    omega
  have hny (h0 : 0 < a) (h1 : a < 1152921504606846976) := number_at (X ++ ⟨#[48]⟩) hcs (16 * a) true (by rw [hcat]; exact num_more a h0 h1)
  have hnn (h0 : ¬ (0 < a ∧ a < 1152921504606846976)) := number_at (X ++ ⟨#[48]⟩) hcs 0 false (by rw [hcat]; exact num_not a ha h0)
  have h16 : (((16 * a : Nat) : Int) == 16 * (a : Int)) = true := by
    rw [beq_iff_eq]
    omega
  have hneg (h : a ≠ b) : (X.toList == Y.toList) = false := by
    rw [beq_eq_false_iff_ne, hXl, hYl]
    exact fun e => h (hexF_inj ha hb e)
  have hnei (h : a ≠ b) : ((a : Int) == (b : Int)) = false := by
    rw [beq_eq_false_iff_ne]
    omega
  by_cases hab : a < b
  · have hle : X.size ≤ Y.size := by rw [hXs, hYs]; exact hexF_mono (by omega) hb
    have q1 := hneg (by omega)
    have q2 := hnei (by omega)
    by_cases hll : X.size < Y.size
    · by_cases s0 : 0 < a
      · by_cases s1 : a < 1152921504606846976
        · exact core_ltlt_yes a b _ X Y (by omega) (by omega) q1 q2 hll (by omega) hX20 hY20 hx hy (hny s0 s1) h16 (by omega) (by omega) w hL
        · exact core_ltlt_no1 a b _ X Y (by omega) (by omega) q1 q2 hll (by omega) hX20 hY20 hx hy (hnn (by omega)) (by omega) (by omega) w hL
      · exact core_ltlt_no0 a b _ X Y (by omega) (by omega) q1 q2 hll (by omega) hX20 hY20 hx hy (hnn (by omega)) (by omega) w hL
    · have q5 : Op.bytesLess X.toList Y.toList = true := by
        rw [hXl, hYl]
        exact hexF_less hab hb (by rw [← hXs, ← hYs]; omega)
      by_cases s0 : 0 < a
      · by_cases s1 : a < 1152921504606846976
        · exact core_lteq_yes a b _ X Y (by omega) (by omega) q1 q2 hle (by omega) (by omega) q5 hX20 hY20 hx hy (hny s0 s1) h16 (by omega) (by omega) w hL
        · exact core_lteq_no1 a b _ X Y (by omega) (by omega) q1 q2 hle (by omega) (by omega) q5 hX20 hY20 hx hy (hnn (by omega)) (by omega) (by omega) w hL
      · exact core_lteq_no0 a b _ X Y (by omega) (by omega) q1 q2 hle (by omega) (by omega) q5 hX20 hY20 hx hy (hnn (by omega)) (by omega) w hL
  · by_cases heq : a = b
    · subst heq
      have q5 := less_same X.toList
      by_cases s0 : 0 < a
      · by_cases s1 : a < 1152921504606846976
        · exact core_same_yes a _ X (by omega) q5 hX20 hx (hny s0 s1) h16 (by omega) (by omega) w hL
        · exact core_same_no1 a _ X (by omega) q5 hX20 hx (hnn (by omega)) (by omega) (by omega) w hL
      · exact core_same_no0 a _ X (by omega) q5 hX20 hx (hnn (by omega)) (by omega) w hL
    · have hle : Y.size ≤ X.size := by rw [hXs, hYs]; exact hexF_mono (by omega) ha
      have q1 := hneg heq
      have q2 := hnei heq
      by_cases hll : Y.size < X.size
      · by_cases s1 : a < 1152921504606846976
        · exact core_gtgt_yes a b _ X Y (by omega) (by omega) q1 q2 hll (by omega) hX20 hY20 hx hy (hny (by omega) s1) h16 (by omega) (by omega) w hL
        · exact core_gtgt_no1 a b _ X Y (by omega) (by omega) q1 q2 hll (by omega) hX20 hY20 hx hy (hnn (by omega)) (by omega) (by omega) w hL
      · have q5 : Op.bytesLess X.toList Y.toList = false := by
          rw [hXl, hYl]
          exact less_asym _ _ (hexF_less (by omega) ha (by rw [← hXs, ← hYs]; omega))
        by_cases s1 : a < 1152921504606846976
        · exact core_gteq_yes a b _ X Y (by omega) (by omega) q1 q2 (by omega) hle (by omega) q5 hX20 hY20 hx hy (hny (by omega) s1) h16 (by omega) (by omega) w hL
        · exact core_gteq_no1 a b _ X Y (by omega) (by omega) q1 q2 (by omega) hle (by omega) q5 hX20 hY20 hx hy (hnn (by omega)) (by omega) (by omega) w hL
end Go.Proofs.YtbeliifgflgboaaDoor
