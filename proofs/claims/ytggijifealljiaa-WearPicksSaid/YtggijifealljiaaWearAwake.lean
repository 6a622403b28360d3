/- The statements' own awake: true. No conditions. -/
import Derived.Test.YtggijifealljiaaWearFace
set_option linter.unusedVariables false
set_option linter.unusedSimpArgs false
namespace Go.Proofs.Ytggijifealljiaa
open Go.RowKit

/-- A new row, written out. -/
theorem lie_lit {α : Type} (K : Kind α) (W : World) (vs : List α) (hw : ∀ v ∈ vs, K.wf v) (cs : Array Value) (hcs : cs = (K.cells vs).toArray) (n : Nat) (hn : vs.length = n) : K.Lie (W.alloc (.cells cs K.T)) (W.alloc (.cells cs K.T)).heap.size (some ⟨W.heap.size, 0, none⟩) n vs := by
  subst hcs
  refine Kind.lie_of hn hw (by simp) fun j u hu => ?_
  rw [cell_new]; simpa using hu
/-- So many blocks there are at least. -/
structure SzLe (b : Nat) (w : World) : Prop where
  le : b ≤ w.heap.size
theorem SzLe.since {b : Nat} {w w' : World} (h : SzLe b w) (hb : Below w.heap.size w w') : SzLe b w' := ⟨Nat.le_trans h.le hb.size⟩
set_option maxHeartbeats 16000000 in
theorem wawake_any (w : World) : Calls Try.prog 7 #[] w (SaysB w true) := by
  have H1 : Hid (orderI [3, 1, 1] [true, true, true] = [1, 2, 0]) := by show _ = _; decide +kernel
  have H2 : Hid (spreadW [3, 1, 1] [true, true, true] = 2) := by show _ = _; decide +kernel
  have H3 : Hid (leastW [3, 1, 1] [true, true, true] = 1) := by show _ = _; decide +kernel
  have H4 : Hid (greatW [] [] = -1) := by show _ = _; decide +kernel
  have H5 : Hid (decide (4 < spreadW [0, 5] [true, true]) = true) := by show _ = _; decide +kernel
  have S0 : Hid (Below w.heap.size w w) := Below.refl _ _
  go_enter Try.func7, Try.ntmps7
  go_wp2_with fail
  have B1 : Hid (boolK.Lie (w.alloc (.cells #[.bool true, .bool true, .bool true] 4)) (w.alloc (.cells #[.bool true, .bool true, .bool true] 4)).heap.size (some ⟨w.heap.size, 0, none⟩) 3 [true, true, true]) := lie_lit boolK w [true, true, true] (fun _ _ => trivial) _ rfl 3 rfl
  have hb1 : Below w.heap.size w (w.alloc (.cells #[.bool true, .bool true, .bool true] 4)) := later_alloc _ _
  have S1 := Lib.hid (below_chain S0.out hb1)
  clear hb1 S0
  obtain ⟨V, HV⟩ : ∃ V : World, Hid (V = w.alloc (.cells #[.bool true, .bool true, .bool true] 4)) := ⟨_, rfl⟩
  have HVS : Hid (w.heap.size + 1 = V.heap.size) := by show _ = _; rw [HV.out]; simp
  rw [show (w.alloc (.cells #[.bool true, .bool true, .bool true] 4)) = V from HV.out.symm, HVS.out]
  rw [← HV.out] at B1 S1
  clear HV HVS
  have X2 : Hid (intK.Lie (V.alloc (.cells #[.int .i64 3, .int .i64 1, .int .i64 1] 3)) (V.alloc (.cells #[.int .i64 3, .int .i64 1, .int .i64 1] 3)).heap.size (some ⟨V.heap.size, 0, none⟩) 3 [3, 1, 1]) := lie_lit intK V [3, 1, 1] (fun v hv => by simp at hv; rcases hv with rfl | rfl | rfl <;> exact ⟨by decide, by decide⟩) _ rfl 3 rfl
  have hb2 : Below V.heap.size V (V.alloc (.cells #[.int .i64 3, .int .i64 1, .int .i64 1] 3)) := later_alloc _ _
  have S2 := Lib.hid (below_chain S1.out hb2)
  have B2 := Lib.hid (B1.out.since hb2)
  clear hb2 S1 B1
  refine (worder_any _ 3 _ [3, 1, 1] _ 3 _ [true, true, true] _ (by omega) (by omega) ⟨X2.out, B2.out⟩).mono ?_
  rw [H1.out]
  rintro e W3 ⟨A3, n3, c3, rfl, hi3, hb3⟩
  obtain rfl : 3 = n3 := hi3.out.len
  have O3 := Lib.hid hi3.out.lie
  have S3 := Lib.hid (below_chain S2.out hb3.out)
  have B3 := Lib.hid (B2.out.since hb3.out)
  clear hb3 hi3 X2 S2 B2
  go_wp2_with fail
  have Y4 : Hid (intK.Lie (W3.alloc (.cells #[.int .i64 1, .int .i64 2, .int .i64 0] 3)) (W3.alloc (.cells #[.int .i64 1, .int .i64 2, .int .i64 0] 3)).heap.size (some ⟨W3.heap.size, 0, none⟩) 3 [1, 2, 0]) := lie_lit intK W3 [1, 2, 0] (fun v hv => by simp at hv; rcases hv with rfl | rfl | rfl <;> exact ⟨by decide, by decide⟩) _ rfl 3 rfl
  have hb4 : Below W3.heap.size W3 (W3.alloc (.cells #[.int .i64 1, .int .i64 2, .int .i64 0] 3)) := later_alloc _ _
  have S4 := Lib.hid (below_chain S3.out hb4)
  have B4 := Lib.hid (B3.out.since hb4)
  have O4 := Lib.hid (O3.out.since hb4)
  clear hb4 S3 B3 O3
  refine (sameints_yes _ _ 3 _ _ [1, 2, 0] _ (by omega) O4.out Y4.out).mono ?_
  rintro e W5 ⟨rfl, hb5⟩
  have S5 := Lib.hid (below_chain S4.out hb5)
  have B5 := Lib.hid (B4.out.since hb5)
  clear hb5 O4 Y4 S4 B4
  go_wp2_with fail
  have X6 : Hid (intK.Lie (W5.alloc (.cells #[.int .i64 3, .int .i64 1, .int .i64 1] 3)) (W5.alloc (.cells #[.int .i64 3, .int .i64 1, .int .i64 1] 3)).heap.size (some ⟨W5.heap.size, 0, none⟩) 3 [3, 1, 1]) := lie_lit intK W5 [3, 1, 1] (fun v hv => by simp at hv; rcases hv with rfl | rfl | rfl <;> exact ⟨by decide, by decide⟩) _ rfl 3 rfl
  have hb6 : Below W5.heap.size W5 (W5.alloc (.cells #[.int .i64 3, .int .i64 1, .int .i64 1] 3)) := later_alloc _ _
  have S6 := Lib.hid (below_chain S5.out hb6)
  have B6 := Lib.hid (B5.out.since hb6)
  clear hb6 S5 B5
  refine (wspread_any _ 3 _ [3, 1, 1] _ 3 _ [true, true, true] _ (by omega) (by omega) ⟨X6.out, B6.out⟩).mono ?_
  rw [H2.out]
  rintro e W7 ⟨rfl, hb7⟩
  have S7 := Lib.hid (below_chain S6.out hb7.out)
  have B7 := Lib.hid (B6.out.since hb7.out)
  clear hb7 X6 S6 B6
  go_wp2_with fail
  have X8 : Hid (intK.Lie (W7.alloc (.cells #[.int .i64 3, .int .i64 1, .int .i64 1] 3)) (W7.alloc (.cells #[.int .i64 3, .int .i64 1, .int .i64 1] 3)).heap.size (some ⟨W7.heap.size, 0, none⟩) 3 [3, 1, 1]) := lie_lit intK W7 [3, 1, 1] (fun v hv => by simp at hv; rcases hv with rfl | rfl | rfl <;> exact ⟨by decide, by decide⟩) _ rfl 3 rfl
  have hb8 : Below W7.heap.size W7 (W7.alloc (.cells #[.int .i64 3, .int .i64 1, .int .i64 1] 3)) := later_alloc _ _
  have S8 := Lib.hid (below_chain S7.out hb8)
  have B8 := Lib.hid (B7.out.since hb8)
  clear hb8 S7 B7
  refine (wleast_any _ 3 _ [3, 1, 1] _ 3 _ [true, true, true] _ (by omega) (by omega) ⟨X8.out, B8.out⟩).mono ?_
  rw [H3.out]
  rintro e W9 ⟨rfl, hb9⟩
  have S9 := Lib.hid (below_chain S8.out hb9.out)
  have B9 := Lib.hid (B8.out.since hb9.out)
  clear hb9 X8 S8 B8
  go_wp2_with fail
  refine (wgreat_any none 0 0 [] none 0 0 [] _ (by omega) (by omega) ⟨Kind.Lie.none_, Kind.Lie.none_⟩).mono ?_
  rw [H4.out]
  rintro e W10 ⟨rfl, hb10⟩
  have S10 := Lib.hid (below_chain S9.out hb10.out)
  have B10 := Lib.hid (B9.out.since hb10.out)
  clear hb10 S9 B9
  go_wp2_with fail
  have X11 : Hid (intK.Lie (W10.alloc (.cells #[.int .i64 0, .int .i64 5] 3)) (W10.alloc (.cells #[.int .i64 0, .int .i64 5] 3)).heap.size (some ⟨W10.heap.size, 0, none⟩) 2 [0, 5]) := lie_lit intK W10 [0, 5] (fun v hv => by simp at hv; rcases hv with rfl | rfl <;> exact ⟨by decide, by decide⟩) _ rfl 2 rfl
  have hb11 : Below W10.heap.size W10 (W10.alloc (.cells #[.int .i64 0, .int .i64 5] 3)) := later_alloc _ _
  have S11 := Lib.hid (below_chain S10.out hb11)
  have B11 := Lib.hid (B10.out.since hb11)
  clear hb11 S10 B10
  have B2 : Hid (boolK.Lie (W10.alloc (.cells #[.int .i64 0, .int .i64 5] 3)) (W10.alloc (.cells #[.int .i64 0, .int .i64 5] 3)).heap.size (some ⟨w.heap.size, 0, none⟩) 2 [true, true]) := B11.out.first (k := 2) (by omega)
  refine (wuneven_any _ 2 _ [0, 5] _ 2 _ [true, true] _ (by omega) (by omega) ⟨X11.out, B2.out⟩).mono ?_
  rw [H5.out]
  rintro e W12 ⟨rfl, hb12⟩
  have S12 := Lib.hid (below_chain S11.out hb12.out)
  go_wp2_with fail
  go_ret
  exact ⟨rfl, S12⟩
end Go.Proofs.Ytggijifealljiaa
