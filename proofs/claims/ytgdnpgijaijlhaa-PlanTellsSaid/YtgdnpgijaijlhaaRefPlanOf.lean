/- The document's own Of: the same numbers as plan's. No conditions. -/
import Derived.Test.YtgdnpgijaijlhaaPlanOf
import Derived.Test.YtgdnpgijaijlhaaRefSegHow
import Derived.StillTailTactics
import Derived.Deep.Cut
import Derived.Test.YtgdnpgijaijlhaaJoint
set_option linter.unusedVariables false
set_option linter.unusedSimpArgs false
namespace Go.Proofs.Ytgdnpgijaijlhaa
open Go.RowKit Go.Sort

theorem run_geo0 (a : Nat) (w : World) : (Instr.fieldAt 23 (.pointer (some ⟨a, 0, none⟩)) 0).run Try.prog w = .ok (.pointer (some ⟨a, 0, none⟩)) w := by go_simp
theorem run_geo1 (a : Nat) (w : World) : (Instr.fieldAt 23 (.pointer (some ⟨a, 0, none⟩)) 1).run Try.prog w = .ok (.pointer (some ⟨a, 1, none⟩)) w := by go_simp
theorem run_geo2 (a : Nat) (w : World) : (Instr.fieldAt 23 (.pointer (some ⟨a, 0, none⟩)) 2).run Try.prog w = .ok (.pointer (some ⟨a, 2, none⟩)) w := by go_simp
theorem run_load_i64 (p : Addr) (z : Int) (w : World) (hc : w.cell? p = some (.int .i64 z)) : (Instr.loadAt 3 (.pointer (some p))).run Try.prog w = .ok (.int .i64 z) w := by go_simp
theorem run_alloc_nums (w : World) : (Instr.alloc 28 true (.tuple #[])).run Try.prog w = .ok (.pointer (some ⟨w.heap.size, 0, none⟩)) (w.alloc (.cells #[.int .i64 0, .int .i64 0, .int .i64 0, .int .i64 0, .int .i64 0, .int .i64 0] 28)) := by go_simp
theorem run_build_nums (p x : Int) (w : World) : (Instr.build 28 #[(0, .int .i64 p), (1, .int .i64 x)]).run Try.prog w = .ok (.agg #[.int .i64 p, .int .i64 x, .int .i64 0, .int .i64 0, .int .i64 0, .int .i64 0]) w := by go_simp
theorem run_mul_i64 (x y : Operand) (p q r : Int) (h : p * q = r) (h0 : 64 ≤ r) (h1 : r ≤ 256) (w : World) : (do eqGuard .mul 3 x y (.int .i64 p) (.int .i64 q); binOp .mul 3 (.int .i64 p) (.int .i64 q)).run Try.prog w = .ok (.int .i64 r) w := by
  subst h
  go_simp
  rw [IntKind.wrap_i64]; omega
theorem run_store_nums {W : World} {b : Nat} {m : Nums} (h : RowC W b (numsC m) 28) (n : Nums) : (Instr.storeAt 28 (.pointer (some ⟨b, 0, none⟩)) (numsV n)).run Try.prog W = .ok () (putN W b n) := by
  have r0 := h.cell 0
  have r1 := h.cell 1
  have r2 := h.cell 2
  have r3 := h.cell 3
  have r4 := h.cell 4
  have r5 := h.cell 5
  have f0 := h.free 0
  have f1 := h.free 1
  have f2 := h.free 2
  have f3 := h.free 3
  have f4 := h.free 4
  have f5 := h.free 5
  simp [numsC] at r0 r1 r2 r3 r4 r5
  unfold numsV putN
  go_simp
theorem putN_else (w : World) (g : Nat) (n : Nums) : w.grownBy (putN w g n) (some g) :=
  grownBy_trans (grownBy_trans (grownBy_trans (grownBy_trans (grownBy_trans (setCell_else w ⟨g, 0, none⟩ _) (setCell_else _ ⟨g, 1, none⟩ _)) (setCell_else _ ⟨g, 2, none⟩ _)) (setCell_else _ ⟨g, 3, none⟩ _)) (setCell_else _ ⟨g, 4, none⟩ _)) (setCell_else _ ⟨g, 5, none⟩ _)
set_option maxHeartbeats 4000000 in
theorem ref10of_any (g : Geo) (w : World) : Calls Try.prog 13 #[geoV g] w (SaysV w (numsV (ofG g))) := by
  have S1 := Lib.hid (since_alloc (Below.refl w.heap.size w) (.cells #[.int .i64 g.b, .int .i64 g.p, .int .i64 g.s] 23))
  have G1 := Lib.hid (geoAt_new w g)
  have S2 := Lib.hid (since_alloc S1.out (.cells #[.int .i64 0, .int .i64 0, .int .i64 0, .int .i64 0, .int .i64 0, .int .i64 0] 28))
  have G2 := Lib.hid (G1.out.since (below_alloc_self _ (.cells #[.int .i64 0, .int .i64 0, .int .i64 0, .int .i64 0, .int .i64 0, .int .i64 0] 28)))
  have R2 := Lib.hid (RowC.new (w.alloc (.cells #[.int .i64 g.b, .int .i64 g.p, .int .i64 g.s] 23)) #[.int .i64 0, .int .i64 0, .int .i64 0, .int .i64 0, .int .i64 0, .int .i64 0] 28)
  have hz : (w.alloc (.cells #[.int .i64 g.b, .int .i64 g.p, .int .i64 g.s] 23)).heap.size = w.heap.size + 1 := by simp
  rw [hz] at R2
  clear hz S1 G1
  obtain ⟨W1, HW1⟩ : ∃ W1, Hid (W1 = (w.alloc (.cells #[.int .i64 g.b, .int .i64 g.p, .int .i64 g.s] 23)).alloc (.cells #[.int .i64 0, .int .i64 0, .int .i64 0, .int .i64 0, .int .i64 0, .int .i64 0] 28)) := ⟨_, rfl⟩
  obtain ⟨N, HN⟩ : ∃ N, Hid (ofG g = N) := ⟨_, rfl⟩
  rw [HN.out]
  unfold geoV
  go_enter Try.func13, Try.ntmps13
  go_upto_region 1 with fail
  rw [← HW1.out] at S2 G2 R2 ⊢
  clear HW1
  obtain ⟨g0, g1, g2, _⟩ := G2.out
  have r0 := R2.out.cell 0
  have r1 := R2.out.cell 1
  have r2 := R2.out.cell 2
  have r3 := R2.out.cell 3
  have r4 := R2.out.cell 4
  have r5 := R2.out.cell 5
  have f0 := R2.out.free 0
  have f1 := R2.out.free 1
  have f2 := R2.out.free 2
  have f3 := R2.out.free 3
  have f4 := R2.out.free 4
  have f5 := R2.out.free 5
  simp at r0 r1 r2 r3 r4 r5
  by_cases i0 : 16 ≤ g.b
  rotate_left
  · have HNZ : Hid (N = ⟨0, 0, 0, 0, 0, 0⟩) := by show _ = _; rw [← HN.out, ofG_out (inG_no (by omega))]
    go_wp2_with fail
    have S9 := Lib.hid (below_putN S2.out (by omega : w.heap.size ≤ w.heap.size + 1) ⟨0, 0, 0, 0, 0, 0⟩)
    have R9 := Lib.hid (row_putN (m := ⟨0, 0, 0, 0, 0, 0⟩) R2.out ⟨0, 0, 0, 0, 0, 0⟩)
    obtain ⟨W9, HW9⟩ : ∃ W9, Hid (W9 = putN W1 (w.heap.size + 1) ⟨0, 0, 0, 0, 0, 0⟩) := ⟨_, rfl⟩
    rw [← HW9.out] at S9 R9
    show bodyPost Try.prog _ _ .ret _ (putN W1 (w.heap.size + 1) ⟨0, 0, 0, 0, 0, 0⟩)
    rw [← HW9.out, HNZ.out]
    clear HW9 r0 r1 r2 r3 r4 r5
    have r0 := R9.out.cell 0
    have r1 := R9.out.cell 1
    have r2 := R9.out.cell 2
    have r3 := R9.out.cell 3
    have r4 := R9.out.cell 4
    have r5 := R9.out.cell 5
    simp [numsC] at r0 r1 r2 r3 r4 r5
    exact bodyPost_ret (v := numsV ⟨0, 0, 0, 0, 0, 0⟩) (by simp [results, Try.results13, go_sem, r0, r1, r2, r3, r4, r5, numsV]) rfl ⟨rfl, S9⟩
  by_cases i1 : g.b ≤ 32
  rotate_left
  · have HNZ : Hid (N = ⟨0, 0, 0, 0, 0, 0⟩) := by show _ = _; rw [← HN.out, ofG_out (inG_no (by omega))]
    go_wp2_with fail
    have S9 := Lib.hid (below_putN S2.out (by omega : w.heap.size ≤ w.heap.size + 1) ⟨0, 0, 0, 0, 0, 0⟩)
    have R9 := Lib.hid (row_putN (m := ⟨0, 0, 0, 0, 0, 0⟩) R2.out ⟨0, 0, 0, 0, 0, 0⟩)
    obtain ⟨W9, HW9⟩ : ∃ W9, Hid (W9 = putN W1 (w.heap.size + 1) ⟨0, 0, 0, 0, 0, 0⟩) := ⟨_, rfl⟩
    rw [← HW9.out] at S9 R9
    show bodyPost Try.prog _ _ .ret _ (putN W1 (w.heap.size + 1) ⟨0, 0, 0, 0, 0, 0⟩)
    rw [← HW9.out, HNZ.out]
    clear HW9 r0 r1 r2 r3 r4 r5
    have r0 := R9.out.cell 0
    have r1 := R9.out.cell 1
    have r2 := R9.out.cell 2
    have r3 := R9.out.cell 3
    have r4 := R9.out.cell 4
    have r5 := R9.out.cell 5
    simp [numsC] at r0 r1 r2 r3 r4 r5
    exact bodyPost_ret (v := numsV ⟨0, 0, 0, 0, 0, 0⟩) (by simp [results, Try.results13, go_sem, r0, r1, r2, r3, r4, r5, numsV]) rfl ⟨rfl, S9⟩
  by_cases i2 : 4 ≤ g.p
  rotate_left
  · have HNZ : Hid (N = ⟨0, 0, 0, 0, 0, 0⟩) := by show _ = _; rw [← HN.out, ofG_out (inG_no (by omega))]
    go_wp2_with fail
    have S9 := Lib.hid (below_putN S2.out (by omega : w.heap.size ≤ w.heap.size + 1) ⟨0, 0, 0, 0, 0, 0⟩)
    have R9 := Lib.hid (row_putN (m := ⟨0, 0, 0, 0, 0, 0⟩) R2.out ⟨0, 0, 0, 0, 0, 0⟩)
    obtain ⟨W9, HW9⟩ : ∃ W9, Hid (W9 = putN W1 (w.heap.size + 1) ⟨0, 0, 0, 0, 0, 0⟩) := ⟨_, rfl⟩
    rw [← HW9.out] at S9 R9
    show bodyPost Try.prog _ _ .ret _ (putN W1 (w.heap.size + 1) ⟨0, 0, 0, 0, 0, 0⟩)
    rw [← HW9.out, HNZ.out]
    clear HW9 r0 r1 r2 r3 r4 r5
    have r0 := R9.out.cell 0
    have r1 := R9.out.cell 1
    have r2 := R9.out.cell 2
    have r3 := R9.out.cell 3
    have r4 := R9.out.cell 4
    have r5 := R9.out.cell 5
    simp [numsC] at r0 r1 r2 r3 r4 r5
    exact bodyPost_ret (v := numsV ⟨0, 0, 0, 0, 0, 0⟩) (by simp [results, Try.results13, go_sem, r0, r1, r2, r3, r4, r5, numsV]) rfl ⟨rfl, S9⟩
  by_cases i3 : g.p ≤ 8
  rotate_left
  · have HNZ : Hid (N = ⟨0, 0, 0, 0, 0, 0⟩) := by show _ = _; rw [← HN.out, ofG_out (inG_no (by omega))]
    go_wp2_with fail
    have S9 := Lib.hid (below_putN S2.out (by omega : w.heap.size ≤ w.heap.size + 1) ⟨0, 0, 0, 0, 0, 0⟩)
    have R9 := Lib.hid (row_putN (m := ⟨0, 0, 0, 0, 0, 0⟩) R2.out ⟨0, 0, 0, 0, 0, 0⟩)
    obtain ⟨W9, HW9⟩ : ∃ W9, Hid (W9 = putN W1 (w.heap.size + 1) ⟨0, 0, 0, 0, 0, 0⟩) := ⟨_, rfl⟩
    rw [← HW9.out] at S9 R9
    show bodyPost Try.prog _ _ .ret _ (putN W1 (w.heap.size + 1) ⟨0, 0, 0, 0, 0, 0⟩)
    rw [← HW9.out, HNZ.out]
    clear HW9 r0 r1 r2 r3 r4 r5
    have r0 := R9.out.cell 0
    have r1 := R9.out.cell 1
    have r2 := R9.out.cell 2
    have r3 := R9.out.cell 3
    have r4 := R9.out.cell 4
    have r5 := R9.out.cell 5
    simp [numsC] at r0 r1 r2 r3 r4 r5
    exact bodyPost_ret (v := numsV ⟨0, 0, 0, 0, 0, 0⟩) (by simp [results, Try.results13, go_sem, r0, r1, r2, r3, r4, r5, numsV]) rfl ⟨rfl, S9⟩
  by_cases i4 : 128 ≤ g.s
  rotate_left
  · have HNZ : Hid (N = ⟨0, 0, 0, 0, 0, 0⟩) := by show _ = _; rw [← HN.out, ofG_out (inG_no (by omega))]
    go_wp2_with fail
    have S9 := Lib.hid (below_putN S2.out (by omega : w.heap.size ≤ w.heap.size + 1) ⟨0, 0, 0, 0, 0, 0⟩)
    have R9 := Lib.hid (row_putN (m := ⟨0, 0, 0, 0, 0, 0⟩) R2.out ⟨0, 0, 0, 0, 0, 0⟩)
    obtain ⟨W9, HW9⟩ : ∃ W9, Hid (W9 = putN W1 (w.heap.size + 1) ⟨0, 0, 0, 0, 0, 0⟩) := ⟨_, rfl⟩
    rw [← HW9.out] at S9 R9
    show bodyPost Try.prog _ _ .ret _ (putN W1 (w.heap.size + 1) ⟨0, 0, 0, 0, 0, 0⟩)
    rw [← HW9.out, HNZ.out]
    clear HW9 r0 r1 r2 r3 r4 r5
    have r0 := R9.out.cell 0
    have r1 := R9.out.cell 1
    have r2 := R9.out.cell 2
    have r3 := R9.out.cell 3
    have r4 := R9.out.cell 4
    have r5 := R9.out.cell 5
    simp [numsC] at r0 r1 r2 r3 r4 r5
    exact bodyPost_ret (v := numsV ⟨0, 0, 0, 0, 0, 0⟩) (by simp [results, Try.results13, go_sem, r0, r1, r2, r3, r4, r5, numsV]) rfl ⟨rfl, S9⟩
  by_cases i5 : g.s ≤ 256
  rotate_left
  · have HNZ : Hid (N = ⟨0, 0, 0, 0, 0, 0⟩) := by show _ = _; rw [← HN.out, ofG_out (inG_no (by omega))]
    go_wp2_with fail
    have S9 := Lib.hid (below_putN S2.out (by omega : w.heap.size ≤ w.heap.size + 1) ⟨0, 0, 0, 0, 0, 0⟩)
    have R9 := Lib.hid (row_putN (m := ⟨0, 0, 0, 0, 0, 0⟩) R2.out ⟨0, 0, 0, 0, 0, 0⟩)
    obtain ⟨W9, HW9⟩ : ∃ W9, Hid (W9 = putN W1 (w.heap.size + 1) ⟨0, 0, 0, 0, 0, 0⟩) := ⟨_, rfl⟩
    rw [← HW9.out] at S9 R9
    show bodyPost Try.prog _ _ .ret _ (putN W1 (w.heap.size + 1) ⟨0, 0, 0, 0, 0, 0⟩)
    rw [← HW9.out, HNZ.out]
    clear HW9 r0 r1 r2 r3 r4 r5
    have r0 := R9.out.cell 0
    have r1 := R9.out.cell 1
    have r2 := R9.out.cell 2
    have r3 := R9.out.cell 3
    have r4 := R9.out.cell 4
    have r5 := R9.out.cell 5
    simp [numsC] at r0 r1 r2 r3 r4 r5
    exact bodyPost_ret (v := numsV ⟨0, 0, 0, 0, 0, 0⟩) (by simp [results, Try.results13, go_sem, r0, r1, r2, r3, r4, r5, numsV]) rfl ⟨rfl, S9⟩
  have hin := inG_yes (g := g) ⟨i0, i1, i2, i3, i4, i5⟩
  have ha := area_bd hin
  have hp := parts_in hin
  have hc := check_in hin
  obtain ⟨P, HP⟩ : ∃ P, Hid (P = g.b * g.p) := ⟨_, rfl⟩
  obtain ⟨q, HQ⟩ : ∃ q, Hid (q = partsG g) := ⟨_, rfl⟩
  obtain ⟨k, HK⟩ : ∃ k, Hid (k = checkG g) := ⟨_, rfl⟩
  rw [← HP.out] at ha
  rw [← HQ.out] at hp
  rw [← HK.out] at hc
  obtain ⟨ha0, ha1⟩ := ha
  obtain ⟨hp0, hp1⟩ := hp
  obtain ⟨hc0, hc1⟩ := hc
  have HF : Hid (N = ⟨P, eachI g.s, k, 2 * k + 5, g.b - (2 * k + 5), 8 * P + 200⟩) := by show _ = _; rw [← HN.out, ofG_in hin, HP.out, HK.out]
  have cP : Hid (∀ W, Calls Try.prog 28 #[.int .i64 g.s, .int .i64 P] W fun e w' => e = .returned (.int .i64 q) ∧ w' = W) := fun W => by
    refine (refparts_any g.s P W (by omega)).mono ?_
    rintro e w' ⟨rfl, rfl⟩
    rw [HQ.out, partsG, HP.out]
    exact ⟨rfl, rfl⟩
  have cE : Hid (∀ W, Calls Try.prog 27 #[.int .i64 g.s] W fun e w' => e = .returned (.int .i64 (eachI g.s)) ∧ w' = W) := fun W => by
    refine (refeach_any g.s W).mono ?_
    rintro e w' ⟨rfl, rfl⟩
    exact ⟨rfl, rfl⟩
  have mP : g.b * g.p = P := HP.out.symm
  have mK : (q + g.p - 1) / g.p = k := by rw [HK.out, HQ.out]; rfl
  have mZ : (g.p == 0) = false := by simp; omega
  obtain ⟨x, HX⟩ : ∃ x, Hid (x = eachI g.s) := ⟨_, rfl⟩
  rw [← HX.out] at cE HF
  clear hin
  go_wp2_with fail
  have SD := Lib.hid (S2.out.drew)
  have GD := Lib.hid (G2.out.since (Below.refl _ _).drew)
  have RD := Lib.hid (R2.out.since (Below.refl _ _).drew)
  have LD : Hid (w.heap.size + 1 < W1.drew.heap.size) := RD.out.lt
  obtain ⟨WD, HWD⟩ : ∃ WD, Hid (WD = W1.drew) := ⟨_, rfl⟩
  rw [← HWD.out] at SD GD RD LD
  clear r0 r1 r2 r3 r4 r5 f0 f1 f2 f3 f4 f5 g0 g1 g2
  refine region_of_steps5 (by kernel_rfl) (fact2Of [.is (.pointer (some ⟨w.heap.size, 0, none⟩)), .is (.int .i64 g.b), .is (.pointer (some ⟨w.heap.size, 1, none⟩)), .is (.int .i64 g.p), .is (.int .i64 P), .is (.pointer (some ⟨w.heap.size, 2, none⟩)), .is (.int .i64 g.s), .is (.int .i64 x), .is (.agg #[.int .i64 P, .int .i64 x, .int .i64 0, .int .i64 0, .int .i64 0, .int .i64 0]), .that (fun v W => ∃ g, v = .pointer (some ⟨g, 0, none⟩) ∧ WD.heap.size ≤ g ∧ RowC W g #[.int .i64 0, .int .i64 0, .int .i64 0, .int .i64 0, .int .i64 0, .int .i64 0] 28) fun _ _ _ h k => by obtain ⟨g, h1, h2, h3⟩ := h; exact ⟨g, h1, h2, h3.since k⟩, .that (fun _ _ => True) (fun _ _ _ _ _ => trivial)]) (deadOf [(9, 10)]) (fun j a => fun x0 y0 => BoxR 3 10 (fun W b => RowC W b (numsC ⟨P, x, 0, 0, 0, 0⟩) 28) WD a j x0 y0) (BoxInv 3 9 10 (fun W b => RowC W b (numsC ⟨0, 0, 0, 0, 0, 0⟩) 28) (fun W b => RowC W b (numsC ⟨P, x, 0, 0, 0, 0⟩) 28) WD) (by kernel_rfl)
    (fun i j v a x y hm hd hn _ h hR => fact2_stays _ _ 10 0 [(9, 10)] (hds_of (by kernel_rfl)) i j v x y hm hd hn h (boxr_but hR))
    (fun listed j a x v y o ho hsz H h hs hl hR hv => boxinv_step (i0 := 9) (by kernel_rfl) (by kernel_rfl) (by decide) (by kernel_rfl) (fun _ _ _ h k => h.since k) (fun _ _ _ h k => h.since k) (fun _ _ h => h) ho hsz h hs hl hR hv H)
    (by rw [← HWD.out]; exact boxinv_start (Below.refl _ _) (by kernel_rfl)) ?_ ?_
  · refine Steps5.cons ?_ (Steps5.cons ?_ (Steps5.cons ?_ (Steps5.cons ?_ (Steps5.cons ?_ (Steps5.cons ?_ (Steps5.cons ?_ (Steps5.cons ?_ (Steps5.cons ?_ (Steps5.cons ?_ (Steps5.cons ?_ (Steps5.nil)))))))))))
    · intro listed a W H hw hl hd
      have t1 : a.tmps.getD 1 undef = .pointer (some ⟨w.heap.size, 0, none⟩) := (H.old 1 (by kernel_rfl)).trans rfl
      exact step2_value (R := fun j x0 y0 => BoxR 3 10 (fun W b => RowC W b (numsC ⟨P, x, 0, 0, 0, 0⟩) 28) WD a j x0 y0) (i := 0) rfl rfl (run_op_fieldAddr rfl t1 (run_geo0 _ W)) (boxr_refl (by decide)) rfl
    · intro listed a W H hw hl hd
      have t33 : a.tmps.getD 33 undef = .pointer (some ⟨w.heap.size, 0, none⟩) := H.get 0 33 (by kernel_rfl) (dep_of hd 0 (by kernel_rfl)) (alive_none (by kernel_rfl))
      exact step2_value (R := fun j x0 y0 => BoxR 3 10 (fun W b => RowC W b (numsC ⟨P, x, 0, 0, 0, 0⟩) 28) WD a j x0 y0) (i := 1) rfl rfl (run_op_load rfl t33 (run_load_i64 _ _ W (later_cell hw.below GD.out.c0))) (boxr_refl (by decide)) rfl
    · intro listed a W H hw hl hd
      have t1 : a.tmps.getD 1 undef = .pointer (some ⟨w.heap.size, 0, none⟩) := (H.old 1 (by kernel_rfl)).trans rfl
      exact step2_value (R := fun j x0 y0 => BoxR 3 10 (fun W b => RowC W b (numsC ⟨P, x, 0, 0, 0, 0⟩) 28) WD a j x0 y0) (i := 2) rfl rfl (run_op_fieldAddr rfl t1 (run_geo1 _ W)) (boxr_refl (by decide)) rfl
    · intro listed a W H hw hl hd
      have t35 : a.tmps.getD 35 undef = .pointer (some ⟨w.heap.size, 1, none⟩) := H.get 2 35 (by kernel_rfl) (dep_of hd 2 (by kernel_rfl)) (alive_none (by kernel_rfl))
      exact step2_value (R := fun j x0 y0 => BoxR 3 10 (fun W b => RowC W b (numsC ⟨P, x, 0, 0, 0, 0⟩) 28) WD a j x0 y0) (i := 3) rfl rfl (run_op_load rfl t35 (run_load_i64 _ _ W (later_cell hw.below GD.out.c1))) (boxr_refl (by decide)) rfl
    · intro listed a W H hw hl hd
      have t34 : a.tmps.getD 34 undef = .int .i64 g.b := H.get 1 34 (by kernel_rfl) (dep_of hd 1 (by kernel_rfl)) (alive_none (by kernel_rfl))
      have t36 : a.tmps.getD 36 undef = .int .i64 g.p := H.get 3 36 (by kernel_rfl) (dep_of hd 3 (by kernel_rfl)) (alive_none (by kernel_rfl))
      exact step2_value (R := fun j x0 y0 => BoxR 3 10 (fun W b => RowC W b (numsC ⟨P, x, 0, 0, 0, 0⟩) 28) WD a j x0 y0) (i := 4) rfl rfl (run_op_bin rfl t34 t36 (run_mul_i64 _ _ _ _ _ mP ha0 ha1 _)) (boxr_refl (by decide)) rfl
    · intro listed a W H hw hl hd
      have t1 : a.tmps.getD 1 undef = .pointer (some ⟨w.heap.size, 0, none⟩) := (H.old 1 (by kernel_rfl)).trans rfl
      exact step2_value (R := fun j x0 y0 => BoxR 3 10 (fun W b => RowC W b (numsC ⟨P, x, 0, 0, 0, 0⟩) 28) WD a j x0 y0) (i := 5) rfl rfl (run_op_fieldAddr rfl t1 (run_geo2 _ W)) (boxr_refl (by decide)) rfl
    · intro listed a W H hw hl hd
      have t38 : a.tmps.getD 38 undef = .pointer (some ⟨w.heap.size, 2, none⟩) := H.get 5 38 (by kernel_rfl) (dep_of hd 5 (by kernel_rfl)) (alive_none (by kernel_rfl))
      exact step2_value (R := fun j x0 y0 => BoxR 3 10 (fun W b => RowC W b (numsC ⟨P, x, 0, 0, 0, 0⟩) 28) WD a j x0 y0) (i := 6) rfl rfl (run_op_load rfl t38 (run_load_i64 _ _ W (later_cell hw.below GD.out.c2))) (boxr_refl (by decide)) rfl
    · intro listed a W H hw hl hd
      have t39 : a.tmps.getD 39 undef = .int .i64 g.s := H.get 6 39 (by kernel_rfl) (dep_of hd 6 (by kernel_rfl)) (alive_none (by kernel_rfl))
      refine step2_call (R := fun j x0 y0 => BoxR 3 10 (fun W b => RowC W b (numsC ⟨P, x, 0, 0, 0, 0⟩) 28) WD a j x0 y0) (i := 7) rfl rfl (run_op_call (vs := #[.int .i64 g.s]) Try.func27 (by kernel_rfl) (by kernel_rfl) rfl (by simp only [List.map_toArray, List.map_cons, List.map_nil]; show #[a.tmps.getD 39 undef] = _; rw [t39])) ?_
      refine (cE.out W).mono ?_
      rintro e W2 ⟨rfl, rfl⟩
      exact ⟨_, rfl, boxr_later (by decide) (later_refl _), rfl⟩
    · intro listed a W H hw hl hd
      have t37 : a.tmps.getD 37 undef = .int .i64 P := H.get 4 37 (by kernel_rfl) (dep_of hd 4 (by kernel_rfl)) (alive_none (by kernel_rfl))
      have t40 : a.tmps.getD 40 undef = .int .i64 x := H.get 7 40 (by kernel_rfl) (dep_of hd 7 (by kernel_rfl)) (alive_none (by kernel_rfl))
      exact step2_value (R := fun j x0 y0 => BoxR 3 10 (fun W b => RowC W b (numsC ⟨P, x, 0, 0, 0, 0⟩) 28) WD a j x0 y0) (i := 8) rfl rfl (run_op_buildS rfl (by simp only [List.map_toArray, List.map_cons, List.map_nil]; show (Instr.build 28 #[(0, a.tmps.getD 37 undef), (1, a.tmps.getD 40 undef)]).run _ _ = _; rw [t37, t40]; exact run_build_nums P x W)) (boxr_refl (by decide)) rfl
    · intro listed a W H hw hl hd
      exact step2_value (R := fun j x0 y0 => BoxR 3 10 (fun W b => RowC W b (numsC ⟨P, x, 0, 0, 0, 0⟩) 28) WD a j x0 y0) (i := 9) rfl rfl (run_op_alloc rfl (run_alloc_nums W)) (boxr_later (by decide) (later_alloc _ _)) ⟨W.heap.size, rfl, hw.below.size, RowC.new W _ _⟩
    · intro listed a W H hw hl hd
      have T3 : (fun v W => ∃ g, v = .pointer (some ⟨g, 0, none⟩) ∧ WD.heap.size ≤ g ∧ RowC W g #[.int .i64 0, .int .i64 0, .int .i64 0, .int .i64 0, .int .i64 0, .int .i64 0] 28) (a.tmps.getD 3 undef) W := H.get 9 3 (by kernel_rfl) (dep_of hd 9 (by kernel_rfl)) (alive_now (m := 10) (by kernel_rfl) (H.notyets 4 hl (by kernel_rfl)))
      have t41 : a.tmps.getD 41 undef = .agg #[.int .i64 P, .int .i64 x, .int .i64 0, .int .i64 0, .int .i64 0, .int .i64 0] := H.get 8 41 (by kernel_rfl) (dep_of hd 8 (by kernel_rfl)) (alive_none (by kernel_rfl))
      clear T3
      obtain ⟨gb, e8, h8, p8, _⟩ := hw.made (dep_of hd 9 (by kernel_rfl))
      have hl13 : listed.getD 10 false = false := by
        have := H.len
        by_cases hh : 10 < listed.size
        · simp [hh] at hl ⊢; exact hl
        · simp [hh]
      exact step2_done (R := fun j x0 y0 => BoxR 3 10 (fun W b => RowC W b (numsC ⟨P, x, 0, 0, 0, 0⟩) 28) WD a j x0 y0) (i := 10) rfl rfl rfl (run_op_store rfl e8 t41 (run_store_nums (p8 hl13) ⟨P, x, 0, 0, 0, 0⟩)) ⟨fun _ => ⟨gb, e8, h8, putN_else W gb ⟨P, x, 0, 0, 0, 0⟩, row_putN (m := ⟨0, 0, 0, 0, 0, 0⟩) (p8 hl13) ⟨P, x, 0, 0, 0, 0⟩⟩, fun e => absurd rfl e⟩ trivial
  · intro a WC listed hdef hsz hinv hall0 hall hact
    obtain ⟨gb, e8, h8, _, p8⟩ := hinv.made (hall0 9 (by decide))
    have HR := Lib.hid (p8 (hall0 10 (by decide)))
    have HBL := Lib.hid hinv.below
    obtain ⟨u, hu⟩ : ∃ u : Nat → Value, ∀ k, a.tmps.getD k undef = u k := ⟨_, fun _ => rfl⟩
    rw [hu] at e8
    simp only [hu] at hact
    have hact' : a = ([33, 34, 35, 36, 37, 38, 39, 40, 41, 3] : List Nat).foldl (fun b k => b.put (some k) (u k)) _ := hact
    simp only [List.foldl] at hact'
    simp only [Act.put, List.setIfInBounds_toArray, List.set_cons_succ, List.set_cons_zero] at hact'
    rw [e8] at hact'
    have HAC := Lib.hid hact'
    have SC := Lib.hid (below_chain SD.out HBL.out)
    have GC := Lib.hid (GD.out.since HBL.out)
    have RC := Lib.hid (RD.out.since HBL.out)
    have hgb : Hid (w.heap.size + 1 < gb) := Nat.lt_of_lt_of_le LD.out h8
    clear hu hact hact' hall hall0 hdef hsz hinv p8 e8 HBL SD GD RD
    obtain ⟨g0, g1, g2, _⟩ := GC.out
    have e0 := HR.out.cell 0
    have e1 := HR.out.cell 1
    have e2 := HR.out.cell 2
    have e3 := HR.out.cell 3
    have e4 := HR.out.cell 4
    have e5 := HR.out.cell 5
    simp [numsC] at e0 e1 e2 e3 e4 e5
    have wz : ¬ g.p = 0 := by omega
    have w0 : IntKind.i64.wrap (q + g.p) = q + g.p := by rw [IntKind.wrap_i64]; omega
    have w1 : IntKind.i64.wrap (q + g.p - 1) = q + g.p - 1 := by rw [IntKind.wrap_i64]; omega
    have w2 : (q + g.p - 1).tdiv g.p = k := by rw [Int.tdiv_eq_ediv_of_nonneg (by omega)]; exact mK
    have w3 : IntKind.i64.wrap k = k := by rw [IntKind.wrap_i64]; omega
    rw [HAC.out]
    go_wp2_with fail
    refine wp_region_still_tail 13 (by kernel_rfl) (by kernel_rfl) ?_
    simp only [List.take_succ_cons, List.take_zero, List.drop_succ_cons, List.drop_zero]
    repeat (first | still_step | still_call (cP.out _))
    refine wpStill_nil ?_
    have S5 := Lib.hid (SC.out.drew)
    have R5 := Lib.hid (RC.out.since (Below.refl _ _).drew)
    have N5 := Lib.hid (HR.out.since (Below.refl _ _).drew)
    have G5 := Lib.hid (GC.out.since (Below.refl _ _).drew)
    obtain ⟨W5, HW5⟩ : ∃ W5, Hid (W5 = WC.drew) := ⟨_, rfl⟩
    change wpList _ _ _ _ _ WC.drew
    rw [← HW5.out] at S5 R5 N5 G5 ⊢
    clear HW5 SC GC RC HR e0 e1 e2 e3 e4 e5 g0 g1 g2
    obtain ⟨g0, g1, g2, _⟩ := G5.out
    clear wz w0 w1 w2 w3
    have n0 : ¬ gb = w.heap.size := by have := hgb.out; omega
    have n1 : ¬ gb = w.heap.size + 1 := by have := hgb.out; omega
    clear cP mP mK mZ HAC i0 i2 i4 i5 hp0 hp1 HP HQ HK
    have e0 : W5.cell? ⟨gb, 0, none⟩ = some (.int .i64 P) := N5.out.cell 0
    have e1 : W5.cell? ⟨gb, 1, none⟩ = some (.int .i64 x) := N5.out.cell 1
    have e2 : W5.cell? ⟨gb, 2, none⟩ = some (.int .i64 0) := N5.out.cell 2
    have e3 : W5.cell? ⟨gb, 3, none⟩ = some (.int .i64 0) := N5.out.cell 3
    have e4 : W5.cell? ⟨gb, 4, none⟩ = some (.int .i64 0) := N5.out.cell 4
    have e5 : W5.cell? ⟨gb, 5, none⟩ = some (.int .i64 0) := N5.out.cell 5
    have q2 := N5.out.free 2
    go_upto_region 5 with fail
    have S6 := Lib.hid (S5.out.setCell (p := ⟨gb, 2, none⟩) (by have := hgb.out; show w.heap.size ≤ gb; omega) (.int .i64 k))
    have R6 := Lib.hid (R5.out.other (c := gb) (fun e => n1 e.symm) 2 (.int .i64 k))
    have N6 : Hid (RowC (W5.setCell ⟨gb, 2, none⟩ (.int .i64 k)) gb (numsC ⟨P, x, k, 0, 0, 0⟩) 28) := N5.out.put 2 (.int .i64 k)
    have G6 : Hid (GeoAt (W5.setCell ⟨gb, 2, none⟩ (.int .i64 k)) w.heap.size g) := GeoAt.other G5.out (fun e => n0 e.symm) 2 _
    obtain ⟨W6, HW6⟩ : ∃ W6, Hid (W6 = W5.setCell ⟨gb, 2, none⟩ (.int .i64 k)) := ⟨_, rfl⟩
    rw [← HW6.out] at S6 R6 N6 G6 ⊢
    clear HW6 S5 R5 N5 G5 g0 g1 g2 e0 e1 e2 e3 e4 e5 q2
    have e0 : W6.cell? ⟨gb, 0, none⟩ = some (.int .i64 P) := N6.out.cell 0
    have e1 : W6.cell? ⟨gb, 1, none⟩ = some (.int .i64 x) := N6.out.cell 1
    have e2 : W6.cell? ⟨gb, 2, none⟩ = some (.int .i64 k) := N6.out.cell 2
    have e3 : W6.cell? ⟨gb, 3, none⟩ = some (.int .i64 0) := N6.out.cell 3
    have e4 : W6.cell? ⟨gb, 4, none⟩ = some (.int .i64 0) := N6.out.cell 4
    have e5 : W6.cell? ⟨gb, 5, none⟩ = some (.int .i64 0) := N6.out.cell 5
    have q3 := N6.out.free 3
    obtain ⟨g0, g1, g2, _⟩ := G6.out
    go_upto_region 6 with fail
    have S7 := Lib.hid (S6.out.setCell (p := ⟨gb, 3, none⟩) (by have := hgb.out; show w.heap.size ≤ gb; omega) (.int .i64 (2 * k + 5)))
    have R7 := Lib.hid (R6.out.other (c := gb) (fun e => n1 e.symm) 3 (.int .i64 (2 * k + 5)))
    have N7 : Hid (RowC (W6.setCell ⟨gb, 3, none⟩ (.int .i64 (2 * k + 5))) gb (numsC ⟨P, x, k, (2 * k + 5), 0, 0⟩) 28) := N6.out.put 3 (.int .i64 (2 * k + 5))
    have G7 : Hid (GeoAt (W6.setCell ⟨gb, 3, none⟩ (.int .i64 (2 * k + 5))) w.heap.size g) := GeoAt.other G6.out (fun e => n0 e.symm) 3 _
    obtain ⟨W7, HW7⟩ : ∃ W7, Hid (W7 = W6.setCell ⟨gb, 3, none⟩ (.int .i64 (2 * k + 5))) := ⟨_, rfl⟩
    rw [← HW7.out] at S7 R7 N7 G7 ⊢
    clear HW7 S6 R6 N6 G6 g0 g1 g2 e0 e1 e2 e3 e4 e5 q3
    have e0 : W7.cell? ⟨gb, 0, none⟩ = some (.int .i64 P) := N7.out.cell 0
    have e1 : W7.cell? ⟨gb, 1, none⟩ = some (.int .i64 x) := N7.out.cell 1
    have e2 : W7.cell? ⟨gb, 2, none⟩ = some (.int .i64 k) := N7.out.cell 2
    have e3 : W7.cell? ⟨gb, 3, none⟩ = some (.int .i64 (2 * k + 5)) := N7.out.cell 3
    have e4 : W7.cell? ⟨gb, 4, none⟩ = some (.int .i64 0) := N7.out.cell 4
    have e5 : W7.cell? ⟨gb, 5, none⟩ = some (.int .i64 0) := N7.out.cell 5
    have q4 := N7.out.free 4
    obtain ⟨g0, g1, g2, _⟩ := G7.out
    go_upto_region 7 with fail
    have S8 := Lib.hid (S7.out.setCell (p := ⟨gb, 4, none⟩) (by have := hgb.out; show w.heap.size ≤ gb; omega) (.int .i64 (g.b - (2 * k + 5))))
    have R8 := Lib.hid (R7.out.other (c := gb) (fun e => n1 e.symm) 4 (.int .i64 (g.b - (2 * k + 5))))
    have N8 : Hid (RowC (W7.setCell ⟨gb, 4, none⟩ (.int .i64 (g.b - (2 * k + 5)))) gb (numsC ⟨P, x, k, (2 * k + 5), (g.b - (2 * k + 5)), 0⟩) 28) := N7.out.put 4 (.int .i64 (g.b - (2 * k + 5)))
    have G8 : Hid (GeoAt (W7.setCell ⟨gb, 4, none⟩ (.int .i64 (g.b - (2 * k + 5)))) w.heap.size g) := GeoAt.other G7.out (fun e => n0 e.symm) 4 _
    obtain ⟨W8, HW8⟩ : ∃ W8, Hid (W8 = W7.setCell ⟨gb, 4, none⟩ (.int .i64 (g.b - (2 * k + 5)))) := ⟨_, rfl⟩
    rw [← HW8.out] at S8 R8 N8 G8 ⊢
    clear HW8 S7 R7 N7 G7 g0 g1 g2 e0 e1 e2 e3 e4 e5 q4
    have e0 : W8.cell? ⟨gb, 0, none⟩ = some (.int .i64 P) := N8.out.cell 0
    have e1 : W8.cell? ⟨gb, 1, none⟩ = some (.int .i64 x) := N8.out.cell 1
    have e2 : W8.cell? ⟨gb, 2, none⟩ = some (.int .i64 k) := N8.out.cell 2
    have e3 : W8.cell? ⟨gb, 3, none⟩ = some (.int .i64 (2 * k + 5)) := N8.out.cell 3
    have e4 : W8.cell? ⟨gb, 4, none⟩ = some (.int .i64 (g.b - (2 * k + 5))) := N8.out.cell 4
    have e5 : W8.cell? ⟨gb, 5, none⟩ = some (.int .i64 0) := N8.out.cell 5
    have q5 := N8.out.free 5
    obtain ⟨g0, g1, g2, _⟩ := G8.out
    go_upto_region 8 with fail
    have S9 := Lib.hid (S8.out.setCell (p := ⟨gb, 5, none⟩) (by have := hgb.out; show w.heap.size ≤ gb; omega) (.int .i64 (8 * P + 200)))
    have R9 := Lib.hid (R8.out.other (c := gb) (fun e => n1 e.symm) 5 (.int .i64 (8 * P + 200)))
    have N9 : Hid (RowC (W8.setCell ⟨gb, 5, none⟩ (.int .i64 (8 * P + 200))) gb (numsC ⟨P, x, k, (2 * k + 5), (g.b - (2 * k + 5)), (8 * P + 200)⟩) 28) := N8.out.put 5 (.int .i64 (8 * P + 200))
    have G9 : Hid (GeoAt (W8.setCell ⟨gb, 5, none⟩ (.int .i64 (8 * P + 200))) w.heap.size g) := GeoAt.other G8.out (fun e => n0 e.symm) 5 _
    obtain ⟨W9, HW9⟩ : ∃ W9, Hid (W9 = W8.setCell ⟨gb, 5, none⟩ (.int .i64 (8 * P + 200))) := ⟨_, rfl⟩
    rw [← HW9.out] at S9 R9 N9 G9 ⊢
    clear HW9 S8 R8 N8 G8 g0 g1 g2 e0 e1 e2 e3 e4 e5 q5
    have e0 : W9.cell? ⟨gb, 0, none⟩ = some (.int .i64 P) := N9.out.cell 0
    have e1 : W9.cell? ⟨gb, 1, none⟩ = some (.int .i64 x) := N9.out.cell 1
    have e2 : W9.cell? ⟨gb, 2, none⟩ = some (.int .i64 k) := N9.out.cell 2
    have e3 : W9.cell? ⟨gb, 3, none⟩ = some (.int .i64 (2 * k + 5)) := N9.out.cell 3
    have e4 : W9.cell? ⟨gb, 4, none⟩ = some (.int .i64 (g.b - (2 * k + 5))) := N9.out.cell 4
    have e5 : W9.cell? ⟨gb, 5, none⟩ = some (.int .i64 (8 * P + 200)) := N9.out.cell 5
    have r0 : W9.cell? ⟨w.heap.size + 1, 0, none⟩ = some (.int .i64 0) := R9.out.cell 0
    have f0 := R9.out.free 0
    have r1 : W9.cell? ⟨w.heap.size + 1, 1, none⟩ = some (.int .i64 0) := R9.out.cell 1
    have f1 := R9.out.free 1
    have r2 : W9.cell? ⟨w.heap.size + 1, 2, none⟩ = some (.int .i64 0) := R9.out.cell 2
    have f2 := R9.out.free 2
    have r3 : W9.cell? ⟨w.heap.size + 1, 3, none⟩ = some (.int .i64 0) := R9.out.cell 3
    have f3 := R9.out.free 3
    have r4 : W9.cell? ⟨w.heap.size + 1, 4, none⟩ = some (.int .i64 0) := R9.out.cell 4
    have f4 := R9.out.free 4
    have r5 : W9.cell? ⟨w.heap.size + 1, 5, none⟩ = some (.int .i64 0) := R9.out.cell 5
    have f5 := R9.out.free 5
    go_wp2_with fail
    have SZ := Lib.hid (below_putN S9.out (by omega : w.heap.size ≤ w.heap.size + 1) ⟨P, x, k, (2 * k + 5), (g.b - (2 * k + 5)), (8 * P + 200)⟩)
    have RZ := Lib.hid (row_putN (m := ⟨0, 0, 0, 0, 0, 0⟩) R9.out ⟨P, x, k, (2 * k + 5), (g.b - (2 * k + 5)), (8 * P + 200)⟩)
    obtain ⟨WZ, HWZ⟩ : ∃ WZ, Hid (WZ = putN W9 (w.heap.size + 1) ⟨P, x, k, (2 * k + 5), (g.b - (2 * k + 5)), (8 * P + 200)⟩) := ⟨_, rfl⟩
    rw [← HWZ.out] at SZ RZ
    show bodyPost Try.prog _ _ .ret _ (putN W9 (w.heap.size + 1) ⟨P, x, k, (2 * k + 5), (g.b - (2 * k + 5)), (8 * P + 200)⟩)
    rw [← HWZ.out, HF.out]
    clear HWZ r0 r1 r2 r3 r4 r5
    have r0 := RZ.out.cell 0
    have r1 := RZ.out.cell 1
    have r2 := RZ.out.cell 2
    have r3 := RZ.out.cell 3
    have r4 := RZ.out.cell 4
    have r5 := RZ.out.cell 5
    simp [numsC] at r0 r1 r2 r3 r4 r5
    exact bodyPost_ret (v := numsV ⟨P, x, k, (2 * k + 5), (g.b - (2 * k + 5)), (8 * P + 200)⟩) (by simp [results, Try.results13, go_sem, r0, r1, r2, r3, r4, r5, numsV]) rfl ⟨rfl, SZ⟩
end Go.Proofs.Ytgdnpgijaijlhaa
