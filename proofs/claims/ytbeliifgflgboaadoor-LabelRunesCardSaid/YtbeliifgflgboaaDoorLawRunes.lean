/- LabelRunes, walked: whatever the rune and the number, it answers true. Condition: what the listed variables hold. -/
import Derived.Test.YtbeliifgflgboaaDoorLawJoins
import Derived.Test.YtbeliifgflgboaaDoorRuneMath
import Derived.Test.YtbeliifgflgboaaDoorLow
import Derived.Laws.IdiomStrings
set_option linter.unusedVariables false
set_option linter.unusedSimpArgs false
namespace Go.Proofs.YtbeliifgflgboaaDoor
open Go.RowKit

theorem good_at (r : Int) (b : Bool) (h : goodB r = b) (w : World) : Calls Tryd.prog 21 #[.int .i32 r] w fun e w' => e = .returned (.bool b) ∧ w = w' := by
  rw [← h]
  exact good_any r w
theorem not_scalar_bad (r : Int) (h : r < 0 ∨ 1114111 < r ∨ (55296 ≤ r ∧ r ≤ 57343)) : goodB r = false := by
  rw [Bool.eq_false_iff]
  intro k
  have := good_low k
  omega

set_option maxHeartbeats 1000000 in
set_option maxRecDepth 100000 in
theorem runes_neg (r k : Int) (h : r < 0) (w : World) (hL : Laid w) :
    Calls Tryd.prog 8 #[.int .i32 r, .int .i64 k] w fun e w' => e = .returned (.bool true) ∧ Below w.heap.size w w' := by
  have g1 := good_at r false (not_scalar_bad r (by omega))
  have HL := Lib.hid hL
  clear hL
  go_enter Tryd.func8, Tryd.ntmps8
  go_wp2_with fail
  refine (g1 _).mono ?_
  rintro e W1 ⟨rfl, rfl⟩
  go_wp2_with fail
  refine (awake_any _ HL.out).mono ?_
  rintro e W1 ⟨rfl, hb1⟩
  go_wp2_with fail
  go_ret
  exact ⟨rfl, hb1⟩
set_option maxHeartbeats 1000000 in
set_option maxRecDepth 100000 in
theorem runes_big (r k : Int) (h : 1114111 < r) (w : World) (hL : Laid w) :
    Calls Tryd.prog 8 #[.int .i32 r, .int .i64 k] w fun e w' => e = .returned (.bool true) ∧ Below w.heap.size w w' := by
  have g1 := good_at r false (not_scalar_bad r (by omega))
  have HL := Lib.hid hL
  clear hL
  go_enter Tryd.func8, Tryd.ntmps8
  go_wp2_with fail
  refine (g1 _).mono ?_
  rintro e W1 ⟨rfl, rfl⟩
  go_wp2_with fail
  refine (awake_any _ HL.out).mono ?_
  rintro e W1 ⟨rfl, hb1⟩
  go_wp2_with fail
  go_ret
  exact ⟨rfl, hb1⟩
set_option maxHeartbeats 1000000 in
set_option maxRecDepth 100000 in
theorem runes_sur (r k : Int) (h : 55296 ≤ r) (h' : r ≤ 57343) (w : World) (hL : Laid w) :
    Calls Tryd.prog 8 #[.int .i32 r, .int .i64 k] w fun e w' => e = .returned (.bool true) ∧ Below w.heap.size w w' := by
  have g1 := good_at r false (not_scalar_bad r (by omega))
  have HL := Lib.hid hL
  clear hL
  go_enter Tryd.func8, Tryd.ntmps8
  go_wp2_with fail
  refine (g1 _).mono ?_
  rintro e W1 ⟨rfl, rfl⟩
  go_wp2_with fail
  refine (awake_any _ HL.out).mono ?_
  rintro e W1 ⟨rfl, hb1⟩
  go_wp2_with fail
  go_ret
  exact ⟨rfl, hb1⟩

theorem conv_one (w : World) (r : Int) (S : ByteArray) (hS : S = runesBytes [r]) :
    (convert 36 9 (.slice (some ⟨w.heap.size, 0, none⟩) 1 1)).run Tryd.prog (w.alloc (.cells #[.int .i32 r] 21)) = .ok (.string S) (w.alloc (.cells #[.int .i32 r] 21)) := by
  have h := run_convert_runes (P := Tryd.prog) (w.alloc (.cells #[.int .i32 r] 21)) 36 9 21 ⟨w.heap.size, 0, none⟩ 1 1 [r] (by simp) Tryd.underlying36 Tryd.underlying21 Tryd.underlying9 (fun j hj => by
    obtain rfl : j = 0 := by simpa using hj
    exact World.cell?_alloc_mark w #[.int .i32 r] 21 (0, 0) 0)
  rw [hS]
  exact h

set_option maxHeartbeats 4000000 in
set_option maxRecDepth 100000 in
theorem runes_yes (r k l : Int) (S W : ByteArray) (hsc : 0 ≤ r) (hsc1 : r < 55296) (hne : (r != 45) = true) (hl0 : 0 ≤ l) (hl1 : l < 20992) (hS : S = runesBytes [r]) (hW : W = runesBytes [19968 + l])
    (l1 : ∀ w, Calls Tryd.prog 27 #[.int .i64 k, .int .i64 20992] w fun e w' => e = .returned (.int .i64 l) ∧ w = w')
    (m1 : ∀ w, Calls Tryd.prog 11 #[.string S] w fun e w' => e = .returned (.bool true) ∧ Below w.heap.size w w')
    (g1 : ∀ w, Calls Tryd.prog 21 #[.int .i32 r] w fun e w' => e = .returned (.bool true) ∧ w = w')
    (g2 : ∀ w, Calls Tryd.prog 21 #[.int .i32 (19968 + l)] w fun e w' => e = .returned (.bool true) ∧ w = w')
    (c1 : ∀ w, Calls Tryd.prog 13 #[.string W] w fun e w' => e = .returned (.int .i64 2) ∧ Below w.heap.size w w')
    (f1 : ∀ w, Calls Tryd.prog 17 #[.string W] w fun e w' => e = .returned (.string W) ∧ Below w.heap.size w w')
    (cl : ∀ w, Calls Tryd.prog 15 #[.string W, .int .i64 1] w fun e w' => e = .returned (.string ⟨#[]⟩) ∧ Below w.heap.size w w')
    (w : World) (hL : Laid w) :
    Calls Tryd.prog 8 #[.int .i32 r, .int .i64 k] w fun e w' => e = .returned (.bool true) ∧ Below w.heap.size w w' := by
  have HL := Lib.hid hL
  clear hL
  have hcv1 := conv_one w r S hS
  have hcv2 := conv_one (w.alloc (.cells #[.int .i32 r] 21)) (19968 + l) W hW
  rw [World.size_alloc] at hcv2
  clear hS hW
  go_enter Tryd.func8, Tryd.ntmps8
  go_wp2_with fail
  refine (l1 _).mono ?_
  rintro e W1 ⟨rfl, rfl⟩
  go_wp2_with fail
  refine (m1 _).mono ?_
  rintro e W2 ⟨rfl, hb⟩
  have B : Below w.heap.size w W2 := (((Below.refl _ w).alloc (Nat.le_refl _) _).alloc (by simp) _).trans (hb.mono (by simp; omega))
  clear hb hcv1 hcv2
  go_wp2_with fail
  refine (g1 _).mono ?_
  rintro e W1 ⟨rfl, rfl⟩
  go_wp2_with fail
  refine (g2 _).mono ?_
  rintro e W1 ⟨rfl, rfl⟩
  go_wp2_with fail
  refine (c1 _).mono ?_
  rintro e W3 ⟨rfl, k⟩
  replace B := below_chain B k
  clear k
  go_wp2_with fail
  refine (f1 _).mono ?_
  rintro e W4 ⟨rfl, k⟩
  replace B := below_chain B k
  clear k
  go_wp2_with fail
  refine (cl _).mono ?_
  rintro e W5 ⟨rfl, k⟩
  replace B := below_chain B k
  clear k
  go_wp2_with fail
  refine (awake_any _ (HL.out.below B)).mono ?_
  rintro e W6 ⟨rfl, k⟩
  replace B := below_chain B k
  clear k
  go_wp2_with fail
  go_ret
  exact ⟨rfl, B⟩
set_option maxHeartbeats 4000000 in
set_option maxRecDepth 100000 in
theorem runes_line (k l : Int) (S W : ByteArray) (hl0 : 0 ≤ l) (hl1 : l < 20992) (hS : S = runesBytes [45]) (hW : W = runesBytes [19968 + l])
    (l1 : ∀ w, Calls Tryd.prog 27 #[.int .i64 k, .int .i64 20992] w fun e w' => e = .returned (.int .i64 l) ∧ w = w')
    (m1 : ∀ w, Calls Tryd.prog 11 #[.string S] w fun e w' => e = .returned (.bool false) ∧ Below w.heap.size w w')
    (g1 : ∀ w, Calls Tryd.prog 21 #[.int .i32 45] w fun e w' => e = .returned (.bool true) ∧ w = w')
    (g2 : ∀ w, Calls Tryd.prog 21 #[.int .i32 (19968 + l)] w fun e w' => e = .returned (.bool true) ∧ w = w')
    (c1 : ∀ w, Calls Tryd.prog 13 #[.string W] w fun e w' => e = .returned (.int .i64 2) ∧ Below w.heap.size w w')
    (f1 : ∀ w, Calls Tryd.prog 17 #[.string W] w fun e w' => e = .returned (.string W) ∧ Below w.heap.size w w')
    (cl : ∀ w, Calls Tryd.prog 15 #[.string W, .int .i64 1] w fun e w' => e = .returned (.string ⟨#[]⟩) ∧ Below w.heap.size w w')
    (w : World) (hL : Laid w) :
    Calls Tryd.prog 8 #[.int .i32 45, .int .i64 k] w fun e w' => e = .returned (.bool true) ∧ Below w.heap.size w w' := by
  have HL := Lib.hid hL
  clear hL
  have hcv1 := conv_one w 45 S hS
  have hcv2 := conv_one (w.alloc (.cells #[.int .i32 45] 21)) (19968 + l) W hW
  rw [World.size_alloc] at hcv2
  clear hS hW
  go_enter Tryd.func8, Tryd.ntmps8
  go_wp2_with fail
  refine (l1 _).mono ?_
  rintro e W1 ⟨rfl, rfl⟩
  go_wp2_with fail
  refine (m1 _).mono ?_
  rintro e W2 ⟨rfl, hb⟩
  have B : Below w.heap.size w W2 := (((Below.refl _ w).alloc (Nat.le_refl _) _).alloc (by simp) _).trans (hb.mono (by simp; omega))
  clear hb hcv1 hcv2
  go_wp2_with fail
  refine (g1 _).mono ?_
  rintro e W1 ⟨rfl, rfl⟩
  go_wp2_with fail
  refine (g2 _).mono ?_
  rintro e W1 ⟨rfl, rfl⟩
  go_wp2_with fail
  refine (c1 _).mono ?_
  rintro e W3 ⟨rfl, k⟩
  replace B := below_chain B k
  clear k
  go_wp2_with fail
  refine (f1 _).mono ?_
  rintro e W4 ⟨rfl, k⟩
  replace B := below_chain B k
  clear k
  go_wp2_with fail
  refine (cl _).mono ?_
  rintro e W5 ⟨rfl, k⟩
  replace B := below_chain B k
  clear k
  go_wp2_with fail
  refine (awake_any _ (HL.out.below B)).mono ?_
  rintro e W6 ⟨rfl, k⟩
  replace B := below_chain B k
  clear k
  go_wp2_with fail
  go_ret
  exact ⟨rfl, B⟩
set_option maxHeartbeats 4000000 in
set_option maxRecDepth 100000 in
theorem runes_bad (r k l : Int) (S W : ByteArray) (hsc : 0 ≤ r) (hsc1 : r < 55296) (hl0 : 0 ≤ l) (hl1 : l < 20992) (hS : S = runesBytes [r]) (hW : W = runesBytes [19968 + l])
    (l1 : ∀ w, Calls Tryd.prog 27 #[.int .i64 k, .int .i64 20992] w fun e w' => e = .returned (.int .i64 l) ∧ w = w')
    (m1 : ∀ w, Calls Tryd.prog 11 #[.string S] w fun e w' => e = .returned (.bool false) ∧ Below w.heap.size w w')
    (g1 : ∀ w, Calls Tryd.prog 21 #[.int .i32 r] w fun e w' => e = .returned (.bool false) ∧ w = w')
    (g2 : ∀ w, Calls Tryd.prog 21 #[.int .i32 (19968 + l)] w fun e w' => e = .returned (.bool true) ∧ w = w')
    (c1 : ∀ w, Calls Tryd.prog 13 #[.string W] w fun e w' => e = .returned (.int .i64 2) ∧ Below w.heap.size w w')
    (f1 : ∀ w, Calls Tryd.prog 17 #[.string W] w fun e w' => e = .returned (.string W) ∧ Below w.heap.size w w')
    (cl : ∀ w, Calls Tryd.prog 15 #[.string W, .int .i64 1] w fun e w' => e = .returned (.string ⟨#[]⟩) ∧ Below w.heap.size w w')
    (w : World) (hL : Laid w) :
    Calls Tryd.prog 8 #[.int .i32 r, .int .i64 k] w fun e w' => e = .returned (.bool true) ∧ Below w.heap.size w w' := by
  have HL := Lib.hid hL
  clear hL
  have hcv1 := conv_one w r S hS
  have hcv2 := conv_one (w.alloc (.cells #[.int .i32 r] 21)) (19968 + l) W hW
  rw [World.size_alloc] at hcv2
  clear hS hW
  go_enter Tryd.func8, Tryd.ntmps8
  go_wp2_with fail
  refine (l1 _).mono ?_
  rintro e W1 ⟨rfl, rfl⟩
  go_wp2_with fail
  refine (m1 _).mono ?_
  rintro e W2 ⟨rfl, hb⟩
  have B : Below w.heap.size w W2 := (((Below.refl _ w).alloc (Nat.le_refl _) _).alloc (by simp) _).trans (hb.mono (by simp; omega))
  clear hb hcv1 hcv2
  go_wp2_with fail
  refine (g1 _).mono ?_
  rintro e W1 ⟨rfl, rfl⟩
  go_wp2_with fail
  refine (g2 _).mono ?_
  rintro e W1 ⟨rfl, rfl⟩
  go_wp2_with fail
  refine (c1 _).mono ?_
  rintro e W3 ⟨rfl, k⟩
  replace B := below_chain B k
  clear k
  go_wp2_with fail
  refine (f1 _).mono ?_
  rintro e W4 ⟨rfl, k⟩
  replace B := below_chain B k
  clear k
  go_wp2_with fail
  refine (cl _).mono ?_
  rintro e W5 ⟨rfl, k⟩
  replace B := below_chain B k
  clear k
  go_wp2_with fail
  refine (awake_any _ (HL.out.below B)).mono ?_
  rintro e W6 ⟨rfl, k⟩
  replace B := below_chain B k
  clear k
  go_wp2_with fail
  go_ret
  exact ⟨rfl, B⟩
set_option maxHeartbeats 4000000 in
set_option maxRecDepth 100000 in
theorem runes_bad2 (r k l : Int) (S W : ByteArray) (hsc : 57343 < r) (hsc1 : r ≤ 1114111) (hl0 : 0 ≤ l) (hl1 : l < 20992) (hS : S = runesBytes [r]) (hW : W = runesBytes [19968 + l])
    (l1 : ∀ w, Calls Tryd.prog 27 #[.int .i64 k, .int .i64 20992] w fun e w' => e = .returned (.int .i64 l) ∧ w = w')
    (m1 : ∀ w, Calls Tryd.prog 11 #[.string S] w fun e w' => e = .returned (.bool false) ∧ Below w.heap.size w w')
    (g1 : ∀ w, Calls Tryd.prog 21 #[.int .i32 r] w fun e w' => e = .returned (.bool false) ∧ w = w')
    (g2 : ∀ w, Calls Tryd.prog 21 #[.int .i32 (19968 + l)] w fun e w' => e = .returned (.bool true) ∧ w = w')
    (c1 : ∀ w, Calls Tryd.prog 13 #[.string W] w fun e w' => e = .returned (.int .i64 2) ∧ Below w.heap.size w w')
    (f1 : ∀ w, Calls Tryd.prog 17 #[.string W] w fun e w' => e = .returned (.string W) ∧ Below w.heap.size w w')
    (cl : ∀ w, Calls Tryd.prog 15 #[.string W, .int .i64 1] w fun e w' => e = .returned (.string ⟨#[]⟩) ∧ Below w.heap.size w w')
    (w : World) (hL : Laid w) :
    Calls Tryd.prog 8 #[.int .i32 r, .int .i64 k] w fun e w' => e = .returned (.bool true) ∧ Below w.heap.size w w' := by
  have HL := Lib.hid hL
  clear hL
  have hcv1 := conv_one w r S hS
  have hcv2 := conv_one (w.alloc (.cells #[.int .i32 r] 21)) (19968 + l) W hW
  rw [World.size_alloc] at hcv2
  clear hS hW
  go_enter Tryd.func8, Tryd.ntmps8
  go_wp2_with fail
  refine (l1 _).mono ?_
  rintro e W1 ⟨rfl, rfl⟩
  go_wp2_with fail
  refine (m1 _).mono ?_
  rintro e W2 ⟨rfl, hb⟩
  have B : Below w.heap.size w W2 := (((Below.refl _ w).alloc (Nat.le_refl _) _).alloc (by simp) _).trans (hb.mono (by simp; omega))
  clear hb hcv1 hcv2
  go_wp2_with fail
  refine (g1 _).mono ?_
  rintro e W1 ⟨rfl, rfl⟩
  go_wp2_with fail
  refine (g2 _).mono ?_
  rintro e W1 ⟨rfl, rfl⟩
  go_wp2_with fail
  refine (c1 _).mono ?_
  rintro e W3 ⟨rfl, k⟩
  replace B := below_chain B k
  clear k
  go_wp2_with fail
  refine (f1 _).mono ?_
  rintro e W4 ⟨rfl, k⟩
  replace B := below_chain B k
  clear k
  go_wp2_with fail
  refine (cl _).mono ?_
  rintro e W5 ⟨rfl, k⟩
  replace B := below_chain B k
  clear k
  go_wp2_with fail
  refine (awake_any _ (HL.out.below B)).mono ?_
  rintro e W6 ⟨rfl, k⟩
  replace B := below_chain B k
  clear k
  go_wp2_with fail
  go_ret
  exact ⟨rfl, B⟩
theorem labelRunes_any (r k : Int) (w : World) (hL : Laid w) :
    Calls Tryd.prog 8 #[.int .i32 r, .int .i64 k] w fun e w' => e = .returned (.bool true) ∧ Below w.heap.size w w' := by
  by_cases n1 : r < 0
  · exact runes_neg r k n1 w hL
  by_cases n2 : 1114111 < r
  · exact runes_big r k n2 w hL
  by_cases n3 : 55296 ≤ r ∧ r ≤ 57343
  · exact runes_sur r k n3.1 n3.2 w hL
  have hsc : Scalar r := by unfold Scalar; omega
  have hl := lowM_bd k 20992 (by omega)
  have hq0 : 19968 ≤ 19968 + lowM k 20992 := by omega
  have hq1 : 19968 + lowM k 20992 ≤ 40959 := by omega
  have hS : (runesBytes [r]).data.toList = enc [r] := runesBytes_enc [r] (by intro x hx; simp at hx; rw [hx]; exact hsc)
  have hW : (runesBytes [19968 + lowM k 20992]).data.toList = enc [19968 + lowM k 20992] := runesBytes_enc _ (by intro x hx; simp at hx; unfold Scalar; omega)
  have hSz : (runesBytes [r]).size ≤ 281474976710656 := by have := runesBytes_size_le [r]; simp at this; omega
  have hWz : (runesBytes [19968 + lowM k 20992]).size ≤ 281474976710656 := by have := runesBytes_size_le [19968 + lowM k 20992]; simp at this; omega
  obtain ⟨w1, w2, w3⟩ := wide_single _ hq0 hq1
  have l1 := fun w => low_any k 20992 (by omega) (by omega) w
  have g2 := good_at _ true (wide_good _ hq0 hq1)
  have c1 := columns_at _ 2 (by rw [hW, w1]) hWz
  have f1 := fold_at _ (runesBytes [19968 + lowM k 20992]) (by rw [hW, w2]) hWz
  have cl := clip_at _ 1 ⟨#[]⟩ (by rw [hW, w3]) hWz (by omega) (by omega)
  have hm := may_single r hsc
  cases hg : goodB r with
  | true =>
    by_cases h45 : r = 45
    · subst h45
      have m1 := may_at _ false (by rw [hS, hm, hg]; simp) hSz
      exact runes_line k _ _ _ hl.1 hl.2 rfl rfl l1 m1 (good_at 45 true hg) g2 c1 f1 cl w hL
    · have hlow := good_low hg
      have m1 := may_at _ true (by rw [hS, hm, hg]; simpa using h45) hSz
      exact runes_yes r k _ _ _ (by omega) (by omega) (by rw [bne_iff_ne]; exact h45) hl.1 hl.2 rfl rfl l1 m1 (good_at r true hg) g2 c1 f1 cl w hL
  | false =>
    have m1 := may_at _ false (by rw [hS, hm, hg]; rfl) hSz
    by_cases hs : r < 55296
    · exact runes_bad r k _ _ _ (by omega) hs hl.1 hl.2 rfl rfl l1 m1 (good_at r false hg) g2 c1 f1 cl w hL
    · exact runes_bad2 r k _ _ _ (by omega) (by omega) hl.1 hl.2 rfl rfl l1 m1 (good_at r false hg) g2 c1 f1 cl w hL
end Go.Proofs.YtbeliifgflgboaaDoor
