/- The landed table: New, Get, Len, Dirty, All; those of none. Conditions: the table's cells. -/
import Derived.Test.YthamnmadgfmbkaaTabDrop
set_option linter.unusedVariables false
set_option linter.unusedSimpArgs false
namespace Go.Proofs.Ythamnmadgfmbkaa
open Go.RowKit

theorem tnew_any (w : World) : Calls Try.prog 9 #[] w (NewT w []) := by
  have HF : Hid (NewT w [] (.returned (.pointer (some ⟨w.heap.size, 0, none⟩))) (w.alloc (.cells #[.slice none 0 0, .int .i64 0, .int .i64 0] 52))) := by
    have hb : Below w.heap.size w (w.alloc (.cells #[.slice none 0 0, .int .i64 0, .int .i64 0] 52)) := (Below.refl _ _).alloc (Nat.le_refl _) _
    refine ⟨w.heap.size, fun b => b = w.heap.size, rfl, ⟨tw_nil, .slice none 0 0, rfl, fun b e => by rw [e]; exact Nat.le_refl _, fun b e => by rw [e]; simp, heap_alloc_new w _, Or.inl ⟨rfl, none, 0, rfl, Kind.Row.none_, fun b hb => by cases hb⟩⟩, hb⟩
  go_enter Try.func9, Try.ntmps9
  go_wp2_with fail
  go_ret
  exact HF.out
section
variable {w : World} {base g : Nat} {fp : Nat → Prop} {l : List E}
theorem tlen_any (hD : TabAt w base fp g l) : Calls Try.prog 24 #[.pointer (some ⟨g, 0, none⟩)] w (SaysI w (l.length : Int)) := by
  obtain ⟨v, K⟩ := hD.core
  have c1 := K.c1
  have S0 := Lib.hid (Below.refl w.heap.size w)
  clear K hD
  go_enter Try.func24, Try.ntmps24
  go_wp2_with fail
  go_ret
  exact ⟨rfl, S0⟩
theorem tdirty_any (hD : TabAt w base fp g l) : Calls Try.prog 22 #[.pointer (some ⟨g, 0, none⟩)] w (SaysI w (dirtyT l : Int)) := by
  obtain ⟨v, K⟩ := hD.core
  have c2 := K.c2
  have S0 := Lib.hid (Below.refl w.heap.size w)
  clear K hD
  go_enter Try.func22, Try.ntmps22
  go_wp2_with fail
  go_ret
  exact ⟨rfl, S0⟩
theorem tall_any (hD : TabAt w base fp g l) : Calls Try.prog 21 #[.pointer (some ⟨g, 0, none⟩)] w (GivesE w l) := by
  obtain ⟨v, K⟩ := hD.core
  have c0 := K.c0
  have C := Lib.hid (concat_any hD.wf.few K.rows)
  clear K hD
  go_enter Try.func21, Try.ntmps21
  go_wp2_with fail
  refine C.out.mono ?_
  rintro e W1 ⟨A1, n1, c1, rfl, hR, hB⟩
  go_wp2_with fail
  go_ret
  exact ⟨_, _, _, rfl, hR, hB⟩
end
theorem tlen_nil (w : World) : Calls Try.prog 24 #[.pointer none] w (SaysI w 0) := by
  have S0 := Lib.hid (Below.refl w.heap.size w)
  go_enter Try.func24, Try.ntmps24
  go_wp2_with fail
  go_ret
  exact ⟨rfl, S0⟩
theorem tdirty_nil (w : World) : Calls Try.prog 22 #[.pointer none] w (SaysI w 0) := by
  have S0 := Lib.hid (Below.refl w.heap.size w)
  go_enter Try.func22, Try.ntmps22
  go_wp2_with fail
  go_ret
  exact ⟨rfl, S0⟩
theorem tall_nil (w : World) : Calls Try.prog 21 #[.pointer none] w (fun e w' => e = .returned (.slice none 0 0) ∧ Hid (Below w.heap.size w w')) := by
  have S0 := Lib.hid (Below.refl w.heap.size w)
  go_enter Try.func21, Try.ntmps21
  go_wp2_with fail
  go_ret
  exact ⟨rfl, S0⟩
theorem tfrom_nil (a n : Int) (d : Bool) (w : World) : Calls Try.prog 16 #[.pointer none, .int .u64 a, .int .i64 n, .bool d] w (fun e w' => e = .returned (.slice none 0 0) ∧ Hid (Below w.heap.size w w')) := by
  have S0 := Lib.hid (Below.refl w.heap.size w)
  go_enter Try.func16, Try.ntmps16
  go_wp2_with fail
  go_ret
  exact ⟨rfl, S0⟩
theorem tcopy_nil (w : World) : Calls Try.prog 20 #[.pointer none] w (fun e w' => e = .returned (.pointer none) ∧ Hid (Below w.heap.size w w')) := by
  have S0 := Lib.hid (Below.refl w.heap.size w)
  go_enter Try.func20, Try.ntmps20
  go_wp2_with fail
  go_ret
  exact ⟨rfl, S0⟩
theorem tget_nil (a : Int) (w : World) : Calls Try.prog 12 #[.pointer none, .int .u64 a] w (TGets w none) := by
  obtain ⟨W0, HW0⟩ : ∃ W0, Hid (W0 = w.alloc (.cells #[.int .u64 0, .int .i64 0, .bool false, .int .i64 0] 32)) := ⟨_, rfl⟩
  have S0 : Hid (Below w.heap.size w W0) := by rw [HW0.out]; exact (Below.refl _ _).alloc (Nat.le_refl _) _
  have R0 : Hid (RowEn W0 w.heap.size E.zero) := by rw [HW0.out]; exact rowEn_new w E.zero
  go_enter Try.func12, Try.ntmps12
  go_wp2_with fail
  rw [← HW0.out]
  obtain ⟨r0, r1, r2, r3⟩ := R0.out.at_
  unfold E.zero at r0 r1 r2 r3
  dsimp only at r0 r1 r2 r3
  exact bodyPost_ret (v := pairO none) (by simp [results, Try.results12, go_sem, r0, r1, r2, r3]; rfl) rfl ⟨rfl, S0⟩
theorem tdrop_nil (a : Int) (w : World) : Calls Try.prog 14 #[.pointer none, .int .u64 a] w (TGets w none) := by
  obtain ⟨W0, HW0⟩ : ∃ W0, Hid (W0 = w.alloc (.cells #[.int .u64 0, .int .i64 0, .bool false, .int .i64 0] 32)) := ⟨_, rfl⟩
  have S0 : Hid (Below w.heap.size w W0) := by rw [HW0.out]; exact (Below.refl _ _).alloc (Nat.le_refl _) _
  have R0 : Hid (RowEn W0 w.heap.size E.zero) := by rw [HW0.out]; exact rowEn_new w E.zero
  go_enter Try.func14, Try.ntmps14
  go_wp2_with fail
  rw [← HW0.out]
  obtain ⟨r0, r1, r2, r3⟩ := R0.out.at_
  unfold E.zero at r0 r1 r2 r3
  dsimp only at r0 r1 r2 r3
  exact bodyPost_ret (v := pairO none) (by simp [results, Try.results14, go_sem, r0, r1, r2, r3]; rfl) rfl ⟨rfl, S0⟩
theorem tput_nil (x : E) (w : World) : Calls Try.prog 10 #[.pointer none, entV x] w (TGets w none) := by
  obtain ⟨o, HO⟩ : ∃ o, Hid (Obj.cells #[.int .u64 x.addr, .int .i64 x.page, .bool x.dirty, .int .i64 x.seq] 32 = o) := ⟨_, rfl⟩
  have hb1 : Below w.heap.size w (w.alloc o) := (Below.refl _ _).alloc (Nat.le_refl _) _
  obtain ⟨W0, HW0⟩ : ∃ W0, Hid (W0 = (w.alloc o).alloc (.cells #[.int .u64 0, .int .i64 0, .bool false, .int .i64 0] 32)) := ⟨_, rfl⟩
  have S0 : Hid (Below w.heap.size w W0) := by rw [HW0.out]; exact hb1.alloc hb1.size _
  have R0 : Hid (RowEn W0 (w.alloc o).heap.size E.zero) := by rw [HW0.out]; exact rowEn_new (w.alloc o) E.zero
  rw [show (w.alloc o).heap.size = w.heap.size + 1 by simp] at R0
  go_enter Try.func10, Try.ntmps10
  unfold entV
  go_wp2_with fail
  rw [HO.out, ← HW0.out]
  obtain ⟨r0, r1, r2, r3⟩ := R0.out.at_
  unfold E.zero at r0 r1 r2 r3
  dsimp only at r0 r1 r2 r3
  exact bodyPost_ret (v := pairO none) (by simp [results, Try.results10, go_sem, r0, r1, r2, r3]; rfl) rfl ⟨rfl, S0⟩
end Go.Proofs.Ythamnmadgfmbkaa
