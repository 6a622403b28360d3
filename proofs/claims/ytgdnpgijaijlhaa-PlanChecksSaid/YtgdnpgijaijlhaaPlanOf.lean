/- Contract of plan.Of: the numbers of a geometry, as the mathematics says. No conditions. -/
import Derived.Test.YtgdnpgijaijlhaaPlan
import Derived.Test.YtgdnpgijaijlhaaRowC
import Derived.StillTailTactics
set_option linter.unusedVariables false
set_option linter.unusedSimpArgs false
namespace Go.Proofs.Ytgdnpgijaijlhaa
open Go.RowKit Go.Sort

def numsC (n : Nums) : Array Value := #[.int .i64 n.pages, .int .i64 n.each, .int .i64 n.check, .int .i64 n.spare, .int .i64 n.room, .int .i64 n.most]
theorem below_alloc_self (W : World) (o : Obj) : Below W.heap.size W (W.alloc o) := since_alloc (Below.refl _ _) o
theorem GeoAt.of_row {w : World} {a : Nat} {g : Geo} (h : RowC w a (geoC g) 23) : GeoAt w a g :=
  ⟨h.cell 0, h.cell 1, h.cell 2, h.lt⟩
theorem run_room (n0 n1 n2 n3 n4 n5 : Int) (W : World) : (Instr.field 28 (.agg #[.int .i64 n0, .int .i64 n1, .int .i64 n2, .int .i64 n3, .int .i64 n4, .int .i64 n5]) 4).run Try.prog W = .ok (.int .i64 n4) W := by first | rfl | kernel_rfl
/-- The world behind a store of such numbers. -/
def putN (w : World) (b : Nat) (n : Nums) : World :=
  (((((w.setCell ⟨b, 0, none⟩ (.int .i64 n.pages)).setCell ⟨b, 1, none⟩ (.int .i64 n.each)).setCell ⟨b, 2, none⟩ (.int .i64 n.check)).setCell ⟨b, 3, none⟩ (.int .i64 n.spare)).setCell ⟨b, 4, none⟩ (.int .i64 n.room)).setCell ⟨b, 5, none⟩ (.int .i64 n.most)
theorem below_putN {m : Nat} {w W : World} {b : Nat} (h : Below m w W) (hb : m ≤ b) (n : Nums) : Below m w (putN W b n) := by
  unfold putN
  exact (((((h.setCell (p := ⟨b, 0, none⟩) hb _).setCell (p := ⟨b, 1, none⟩) hb _).setCell (p := ⟨b, 2, none⟩) hb _).setCell (p := ⟨b, 3, none⟩) hb _).setCell (p := ⟨b, 4, none⟩) hb _).setCell (p := ⟨b, 5, none⟩) hb _
theorem row_putN {W : World} {b : Nat} {m : Nums} (h : RowC W b (numsC m) 28) (n : Nums) : RowC (putN W b n) b (numsC n) 28 := by
  unfold putN
  exact (((((h.put 0 _).put 1 _).put 2 _).put 3 _).put 4 _).put 5 _
set_option maxHeartbeats 2000000 in
theorem of_any (g : Geo) (w : World) : Calls Try.prog 12 #[geoV g] w (SaysV w (numsV (ofG g))) := by
  have S1 := Lib.hid (since_alloc (Below.refl w.heap.size w) (.cells #[.int .i64 g.b, .int .i64 g.p, .int .i64 g.s] 23))
  have G1 := Lib.hid (geoAt_new w g)
  have S2 := Lib.hid (since_alloc S1.out (.cells #[.int .i64 0, .int .i64 0, .int .i64 0, .int .i64 0, .int .i64 0, .int .i64 0] 28))
  have G2 := Lib.hid (G1.out.since (below_alloc_self _ (.cells #[.int .i64 0, .int .i64 0, .int .i64 0, .int .i64 0, .int .i64 0, .int .i64 0] 28)))
  have R2 := Lib.hid (RowC.new (w.alloc (.cells #[.int .i64 g.b, .int .i64 g.p, .int .i64 g.s] 23)) #[.int .i64 0, .int .i64 0, .int .i64 0, .int .i64 0, .int .i64 0, .int .i64 0] 28)
  have hz : (w.alloc (.cells #[.int .i64 g.b, .int .i64 g.p, .int .i64 g.s] 23)).heap.size = w.heap.size + 1 := by simp
  rw [hz] at R2
  clear hz S1 G1
  obtain ⟨W1, HW1⟩ : ∃ W1, Hid (W1 = (w.alloc (.cells #[.int .i64 g.b, .int .i64 g.p, .int .i64 g.s] 23)).alloc (.cells #[.int .i64 0, .int .i64 0, .int .i64 0, .int .i64 0, .int .i64 0, .int .i64 0] 28)) := ⟨_, rfl⟩
  obtain ⟨N, HN⟩ : ∃ N, Hid (ofG g = N) := ⟨_, rfl⟩
  rw [HN.out]
  unfold geoV
  go_enter Try.func12, Try.ntmps12
  go_wp2_with fail
  rw [← HW1.out] at S2 G2 R2 ⊢
  clear HW1
  refine (within_any g W1).mono ?_
  rintro e W2 ⟨rfl, hb2⟩
  have S3 := Lib.hid (below_chain S2.out hb2.out)
  have G3 := Lib.hid (G2.out.since hb2.out)
  have R3 := Lib.hid (R2.out.since hb2.out)
  clear S2 G2 R2 hb2
  obtain ⟨g0, g1, g2, _⟩ := G3.out
  have r0 := R3.out.cell 0
  have r1 := R3.out.cell 1
  have r2 := R3.out.cell 2
  have r3 := R3.out.cell 3
  have r4 := R3.out.cell 4
  have r5 := R3.out.cell 5
  have f0 := R3.out.free 0
  have f1 := R3.out.free 1
  have f2 := R3.out.free 2
  have f3 := R3.out.free 3
  have f4 := R3.out.free 4
  have f5 := R3.out.free 5
  simp at r0 r1 r2 r3 r4 r5
  cases hin : inG g with
  | false =>
    have HNZ : Hid (N = ⟨0, 0, 0, 0, 0, 0⟩) := by show _ = _; rw [← HN.out, ofG_out hin]
    clear hin
    go_wp2_with fail
    have S9 := Lib.hid (below_putN S3.out (by omega : w.heap.size ≤ w.heap.size + 1) ⟨0, 0, 0, 0, 0, 0⟩)
    have R9 := Lib.hid (row_putN (m := ⟨0, 0, 0, 0, 0, 0⟩) R3.out ⟨0, 0, 0, 0, 0, 0⟩)
    obtain ⟨W9, HW9⟩ : ∃ W9, Hid (W9 = putN W2 (w.heap.size + 1) ⟨0, 0, 0, 0, 0, 0⟩) := ⟨_, rfl⟩
    rw [← HW9.out] at S9 R9
    show bodyPost Try.prog _ _ .ret _ (putN W2 (w.heap.size + 1) ⟨0, 0, 0, 0, 0, 0⟩)
    rw [← HW9.out, HNZ.out]
    clear HW9 r0 r1 r2 r3 r4 r5
    have r0 := R9.out.cell 0
    have r1 := R9.out.cell 1
    have r2 := R9.out.cell 2
    have r3 := R9.out.cell 3
    have r4 := R9.out.cell 4
    have r5 := R9.out.cell 5
    simp [numsC] at r0 r1 r2 r3 r4 r5
    exact bodyPost_ret (v := numsV ⟨0, 0, 0, 0, 0, 0⟩) (by simp [results, Try.results12, go_sem, r0, r1, r2, r3, r4, r5, numsV]) rfl ⟨rfl, S9⟩
  | true =>
    obtain ⟨i0, i1, i2, i3, i4, i5⟩ := inG_out hin
    have ha := area_bd hin
    have hp := parts_in hin
    have hc := check_in hin
    obtain ⟨P, HP⟩ : ∃ P, Hid (P = g.b * g.p) := ⟨_, rfl⟩
    obtain ⟨q, HQ⟩ : ∃ q, Hid (q = partsG g) := ⟨_, rfl⟩
    obtain ⟨k, HK⟩ : ∃ k, Hid (k = checkG g) := ⟨_, rfl⟩
    rw [← HP.out] at ha
    rw [← HQ.out] at hp
    rw [← HK.out] at hc
    obtain ⟨ha0, ha1⟩ := ha
    obtain ⟨hp0, hp1⟩ := hp
    obtain ⟨hc0, hc1⟩ := hc
    have HF : Hid (N = ⟨P, eachI g.s, k, 2 * k + 5, g.b - (2 * k + 5), 8 * P + 200⟩) := by show _ = _; rw [← HN.out, ofG_in hin, HP.out, HK.out]
    have cP : Hid (∀ W, Calls Try.prog 23 #[.int .i64 g.s, .int .i64 P] W fun e w' => e = .returned (.int .i64 q) ∧ w' = W) := fun W => by
      refine (parts_any g.s P W (by omega)).mono ?_
      rintro e w' ⟨rfl, rfl⟩
      rw [HQ.out, partsG, HP.out]
      exact ⟨rfl, rfl⟩
    have cB : Hid (∀ W, Calls Try.prog 26 #[.int .i64 q, .int .i64 g.p] W fun e w' => e = .returned (.int .i64 k) ∧ w' = W) := fun W => by
      refine (blocksfor_any q g.p W (by omega) (by omega) i2 i3).mono ?_
      rintro e w' ⟨rfl, rfl⟩
      rw [HK.out, checkG, HQ.out]
      exact ⟨rfl, rfl⟩
    have cE : Hid (∀ W, Calls Try.prog 24 #[.int .i64 g.s] W fun e w' => e = .returned (.int .i64 (eachI g.s)) ∧ w' = W) := fun W => by
      refine (each_any g.s W).mono ?_
      rintro e w' ⟨rfl, rfl⟩
      exact ⟨rfl, rfl⟩
    have mP : g.b * g.p = P := HP.out.symm
    obtain ⟨x, HX⟩ : ∃ x, Hid (x = eachI g.s) := ⟨_, rfl⟩
    rw [← HX.out] at cE HF
    clear hin
    go_wp2_with fail
    refine wp_region_still_lit (by kernel_rfl) (by kernel_rfl) ?_
    repeat (first | still_step | still_call (cP.out _) | still_call (cB.out _))
    refine wpStill_nil ?_
    have S4 := Lib.hid (S3.out.drew)
    have G4 := Lib.hid (G3.out.since (Below.refl _ _).drew)
    have R4 := Lib.hid (R3.out.since (Below.refl _ _).drew)
    obtain ⟨W4, HW4⟩ : ∃ W4, Hid (W4 = W2.drew) := ⟨_, rfl⟩
    change Exit.then _ _ _ _ W2.drew
    rw [← HW4.out] at S4 G4 R4 ⊢
    clear HW4 S3 G3 R3 r0 r1 r2 r3 r4 r5 f0 f1 f2 f3 f4 f5 g0 g1 g2
    obtain ⟨g0, g1, g2, _⟩ := G4.out
    have f0 := R4.out.free 0
    have f1 := R4.out.free 1
    have f2 := R4.out.free 2
    have f3 := R4.out.free 3
    have f4 := R4.out.free 4
    have f5 := R4.out.free 5
    have r0 := R4.out.cell 0
    have r1 := R4.out.cell 1
    have r2 := R4.out.cell 2
    have r3 := R4.out.cell 3
    have r4 := R4.out.cell 4
    have r5 := R4.out.cell 5
    simp at r0 r1 r2 r3 r4 r5
    go_wp2_with fail
    refine wp_region_still_tail 14 (by kernel_rfl) (by kernel_rfl) ?_
    simp only [List.take_succ_cons, List.take_zero, List.drop_succ_cons, List.drop_zero]
    repeat (first | still_step | still_call (cE.out _))
    refine wpStill_nil ?_
    have S5 := Lib.hid (S4.out.drew)
    have R5 := Lib.hid (R4.out.since (Below.refl _ _).drew)
    obtain ⟨W5, HW5⟩ : ∃ W5, Hid (W5 = W4.drew) := ⟨_, rfl⟩
    change wpList _ _ _ _ _ W4.drew
    rw [← HW5.out] at S5 R5 ⊢
    clear HW5 S4 G4 R4 r0 r1 r2 r3 r4 r5 f0 f1 f2 f3 f4 f5 g0 g1 g2
    have f0 := R5.out.free 0
    have f1 := R5.out.free 1
    have f2 := R5.out.free 2
    have f3 := R5.out.free 3
    have f4 := R5.out.free 4
    have f5 := R5.out.free 5
    have r0 := R5.out.cell 0
    have r1 := R5.out.cell 1
    have r2 := R5.out.cell 2
    have r3 := R5.out.cell 3
    have r4 := R5.out.cell 4
    have r5 := R5.out.cell 5
    simp at r0 r1 r2 r3 r4 r5
    go_wp2_with fail
    have S9 := Lib.hid (below_putN S5.out (by omega : w.heap.size ≤ w.heap.size + 1) ⟨P, x, k, 2 * k + 5, g.b - (2 * k + 5), 8 * P + 200⟩)
    have R9 := Lib.hid (row_putN (m := ⟨0, 0, 0, 0, 0, 0⟩) R5.out ⟨P, x, k, 2 * k + 5, g.b - (2 * k + 5), 8 * P + 200⟩)
    obtain ⟨W9, HW9⟩ : ∃ W9, Hid (W9 = putN W5 (w.heap.size + 1) ⟨P, x, k, 2 * k + 5, g.b - (2 * k + 5), 8 * P + 200⟩) := ⟨_, rfl⟩
    rw [← HW9.out] at S9 R9
    show bodyPost Try.prog _ _ .ret _ (putN W5 (w.heap.size + 1) ⟨P, x, k, 2 * k + 5, g.b - (2 * k + 5), 8 * P + 200⟩)
    rw [← HW9.out, HF.out]
    clear HW9 r0 r1 r2 r3 r4 r5
    have r0 := R9.out.cell 0
    have r1 := R9.out.cell 1
    have r2 := R9.out.cell 2
    have r3 := R9.out.cell 3
    have r4 := R9.out.cell 4
    have r5 := R9.out.cell 5
    simp [numsC] at r0 r1 r2 r3 r4 r5
    exact bodyPost_ret (v := numsV ⟨P, x, k, 2 * k + 5, g.b - (2 * k + 5), 8 * P + 200⟩) (by simp [results, Try.results12, go_sem, r0, r1, r2, r3, r4, r5, numsV]) rfl ⟨rfl, S9⟩
end Go.Proofs.Ytgdnpgijaijlhaa
