/- The contracts of mishap's At, After, Darks, mayBe, May. Conditions: the slices' cells; at most 7000 mishaps where a list is made. -/
import Derived.Test.YtgamjffedlkbeaaMishMay
set_option linter.unusedVariables false
set_option linter.unusedSimpArgs false
namespace Go.Proofs.Ytgamjffedlkbeaa
open Go.RowKit
open Go.Sort (grow)

set_option maxHeartbeats 4000000 in
theorem at7_any (x : Int) (A : Option Addr) (n c : Nat) (ms : List M) (w : World) (hn : n ≤ 9223372036854775807) (hA : mishK.Lie w w.heap.size A n ms) :
    Calls Try.prog 41 #[.int .i64 x, .slice A n c] w (SaysV w (atV (atM x ms))) := by
  have HL := Lib.hid hA.len
  have S0 := Lib.hid (since_alloc (Below.refl w.heap.size w) (.cells #[.int .i64 0, .int .i64 0, .int .i64 0, .int .u8 0] 45))
  have R0 := Lib.hid (rowM_new w M.zero)
  obtain ⟨W0, HW0⟩ : ∃ W0 : World, Hid (W0 = w.alloc (.cells #[.int .i64 0, .int .i64 0, .int .i64 0, .int .u8 0] 45)) := ⟨_, rfl⟩
  have HA := Lib.hid hA
  clear hA
  unfold M.zero at R0
  dsimp only at R0
  rw [← HW0.out] at S0 R0
  go_enter Try.func41, Try.ntmps41
  go_wp2_with fail
  rw [← HW0.out]
  go_loopw [10] (fun t10 wr => ∃ k : Nat, t10 = .int .i64 k ∧ k ≤ n ∧ Hid (∀ j, j < k → (getM ms j).at_ ≠ x) ∧ Hid (RowM wr w.heap.size ⟨0, 0, 0, 0⟩) ∧ Hid (Below w.heap.size w wr)) (fun t10 _ => n - (intOf t10).toNat)
  case atStart => exact ⟨0, rfl, Nat.zero_le _, fun j hj => absurd hj (Nat.not_lt_zero j), R0, S0⟩
  case round =>
    obtain ⟨k, rfl, hk, HK, HR, HB⟩ := hrel
    by_cases hlt : k < n
    · obtain ⟨ad, rfl, hblk, hat⟩ := mish_at (HA.out.since HB.out) hlt
      have HHIT := Lib.hid fun h => atM_hit (x := x) (ms := ms) (k := k) (by rw [HL.out]; exact hlt) h HK.out
      obtain ⟨m, HM⟩ : ∃ m, Hid (m = getM ms k) := ⟨_, rfl⟩
      rw [← HM.out] at hat HHIT
      obtain ⟨c0, c1, c2, c3⟩ := hat
      have i0 : (0 : Int) ≤ (k : Int) := by omega
      have i1 : (k : Int) < (n : Int) := by omega
      obtain ⟨W1, HW1⟩ : ∃ W1, Hid (W1 = wr.alloc (.cells #[.int .i64 m.at_, .int .i64 m.kind, .int .i64 m.bytes, .int .u8 m.fill] 45)) := ⟨_, rfl⟩
      have L1 : Hid (Below wr.heap.size wr W1) := by rw [HW1.out]; exact later_alloc _ _
      have R1 : Hid (RowM W1 wr.heap.size m) := by rw [HW1.out]; exact rowM_new wr m
      have RV := Lib.hid (HR.out.since L1.out)
      have S1 := Lib.hid (below_chain HB.out L1.out)
      by_cases h : m.at_ = x
      · have HF := Lib.hid (HHIT.out h)
        have hb : (m.at_ == x) = true := by simpa using h
        clear h HHIT
        obtain ⟨e0, e1, e2, e3⟩ := R1.out.at_
        obtain ⟨d0, d1, d2, d3⟩ := RV.out.at_
        have f0 := RV.out.free 0
        have f1 := RV.out.free 1
        have f2 := RV.out.free 2
        have f3 := RV.out.free 3
        dsimp only at d0 d1 d2 d3
        rw [HW1.out] at e0 e1 e2 e3 d0 d1 d2 d3 f0 f1 f2 f3
        go_wp2_with fail
        rw [← HW1.out]
        have S9 := Lib.hid (S1.out.grown (put4_else W1 w.heap.size (.int .i64 m.at_) (.int .i64 m.kind) (.int .i64 m.bytes) (.int .u8 m.fill)) S1.out.size (fun q hq => by rw [← Option.some.inj hq]; exact Nat.le_refl _))
        have R9 := Lib.hid (RV.out.put m)
        obtain ⟨W9, HW9⟩ : ∃ W9, Hid (W9 = ((((W1.setCell ⟨w.heap.size, 0, none⟩ (.int .i64 m.at_)).setCell ⟨w.heap.size, 1, none⟩ (.int .i64 m.kind)).setCell ⟨w.heap.size, 2, none⟩ (.int .i64 m.bytes)).setCell ⟨w.heap.size, 3, none⟩ (.int .u8 m.fill))) := ⟨_, rfl⟩
        rw [← HW9.out] at S9 R9 ⊢
        obtain ⟨r0, r1, r2, r3⟩ := R9.out.at_
        exact bodyPost_ret (v := .tuple #[mishV m, .bool true]) (by simp [results, Try.results41, go_sem, r0, r1, r2, r3, mishV]) rfl (by rw [HF.out]; exact ⟨rfl, S9⟩)
      · have hb : (m.at_ == x) = false := by simpa using h
        have HK2 : Hid (∀ j, j < k + 1 → (getM ms j).at_ ≠ x) := fun j hj => by
          by_cases e : j = k
          · subst e; rw [← HM.out]; exact h
          · exact HK.out j (by omega)
        clear h HHIT
        go_wp2_with fail
        rw [← HW1.out]
        go_roundw
        case rel => exact ⟨k + 1, by go_num, by omega, HK2, RV, S1⟩
        case measure => simp [intOf]; omega
    · have HF : Hid (atM x ms = none) := atM_miss fun j hj => HK.out j (by have := HL.out; omega)
      obtain ⟨d0, d1, d2, d3⟩ := HR.out.at_
      have f0 := HR.out.free 0
      have f1 := HR.out.free 1
      have f2 := HR.out.free 2
      have f3 := HR.out.free 3
      dsimp only at d0 d1 d2 d3
      go_wp2_with fail
      have S9 := Lib.hid (HB.out.grown (put4_else wr w.heap.size (.int .i64 0) (.int .i64 0) (.int .i64 0) (.int .u8 0)) HB.out.size (fun q hq => by rw [← Option.some.inj hq]; exact Nat.le_refl _))
      have R9 := Lib.hid (HR.out.put ⟨0, 0, 0, 0⟩)
      dsimp only at R9
      obtain ⟨W9, HW9⟩ : ∃ W9, Hid (W9 = ((((wr.setCell ⟨w.heap.size, 0, none⟩ (.int .i64 0)).setCell ⟨w.heap.size, 1, none⟩ (.int .i64 0)).setCell ⟨w.heap.size, 2, none⟩ (.int .i64 0)).setCell ⟨w.heap.size, 3, none⟩ (.int .u8 0))) := ⟨_, rfl⟩
      rw [← HW9.out] at S9 R9 ⊢
      obtain ⟨r0, r1, r2, r3⟩ := R9.out.at_
      dsimp only at r0 r1 r2 r3
      exact bodyPost_ret (v := .tuple #[mishV M.zero, .bool false]) (by simp [results, Try.results41, go_sem, r0, r1, r2, r3, mishV, M.zero]) rfl (by rw [HF.out]; exact ⟨rfl, S9⟩)
set_option maxHeartbeats 4000000 in
theorem maybe7_any (m : M) (w : World) : Calls Try.prog 40 #[mishV m] w (SaysB w (okM m)) := by
  obtain ⟨a, kd, by_, fl⟩ := m
  unfold mishV
  dsimp only
  have hk : kd = 1 ∨ kd = 2 ∨ (¬ kd = 1 ∧ ¬ kd = 2) := by omega
  rcases hk with rfl | rfl | ⟨h1, h2⟩
  · skip
    obtain ⟨W1, HW1⟩ : ∃ W1, Hid (W1 = w.alloc (.cells #[.int .i64 a, .int .i64 1, .int .i64 by_, .int .u8 fl] 45)) := ⟨_, rfl⟩
    have S1 : Hid (Below w.heap.size w W1) := by rw [HW1.out]; exact later_alloc _ _
    have R1 : Hid (RowM W1 w.heap.size ⟨a, 1, by_, fl⟩) := by rw [HW1.out]; exact rowM_new w ⟨a, 1, by_, fl⟩
    obtain ⟨e0, e1, e2, e3⟩ := R1.out.at_
    dsimp only at e0 e1 e2 e3
    by_cases a0 : 1 ≤ a
    rotate_left
    · skip
      rw [show okM ⟨a, 1, by_, fl⟩ = false from decide_eq_false (fun h => a0 h.1)]
      go_enter Try.func40, Try.ntmps40
      go_wp2_with fail
      rw [← HW1.out]
      clear HW1
      go_ret
      exact ⟨rfl, S1.out⟩
    by_cases a1 : a ≤ 1073741824
    rotate_left
    · skip
      rw [show okM ⟨a, 1, by_, fl⟩ = false from decide_eq_false (fun h => a1 h.2.1)]
      go_enter Try.func40, Try.ntmps40
      go_wp2_with fail
      rw [← HW1.out]
      clear HW1
      go_ret
      exact ⟨rfl, S1.out⟩
    by_cases b0 : 0 ≤ by_
    rotate_left
    · skip
      rw [show okM ⟨a, 1, by_, fl⟩ = false from decide_eq_false (fun h => b0 h.2.2.2.1)]
      go_enter Try.func40, Try.ntmps40
      go_wp2_with fail
      rw [← HW1.out]
      clear HW1
      go_ret
      exact ⟨rfl, S1.out⟩
    by_cases b1 : by_ ≤ 65536
    rotate_left
    · skip
      rw [show okM ⟨a, 1, by_, fl⟩ = false from decide_eq_false (fun h => b1 h.2.2.2.2)]
      go_enter Try.func40, Try.ntmps40
      go_wp2_with fail
      rw [← HW1.out]
      clear HW1
      go_ret
      exact ⟨rfl, S1.out⟩
    rw [show okM ⟨a, 1, by_, fl⟩ = true from decide_eq_true ⟨a0, a1, Or.inl rfl, b0, b1⟩]
    go_enter Try.func40, Try.ntmps40
    go_wp2_with fail
    rw [← HW1.out]
    clear HW1
    go_ret
    exact ⟨rfl, S1.out⟩
  · skip
    obtain ⟨W1, HW1⟩ : ∃ W1, Hid (W1 = w.alloc (.cells #[.int .i64 a, .int .i64 2, .int .i64 by_, .int .u8 fl] 45)) := ⟨_, rfl⟩
    have S1 : Hid (Below w.heap.size w W1) := by rw [HW1.out]; exact later_alloc _ _
    have R1 : Hid (RowM W1 w.heap.size ⟨a, 2, by_, fl⟩) := by rw [HW1.out]; exact rowM_new w ⟨a, 2, by_, fl⟩
    obtain ⟨e0, e1, e2, e3⟩ := R1.out.at_
    dsimp only at e0 e1 e2 e3
    by_cases a0 : 1 ≤ a
    rotate_left
    · skip
      rw [show okM ⟨a, 2, by_, fl⟩ = false from decide_eq_false (fun h => a0 h.1)]
      go_enter Try.func40, Try.ntmps40
      go_wp2_with fail
      rw [← HW1.out]
      clear HW1
      go_ret
      exact ⟨rfl, S1.out⟩
    by_cases a1 : a ≤ 1073741824
    rotate_left
    · skip
      rw [show okM ⟨a, 2, by_, fl⟩ = false from decide_eq_false (fun h => a1 h.2.1)]
      go_enter Try.func40, Try.ntmps40
      go_wp2_with fail
      rw [← HW1.out]
      clear HW1
      go_ret
      exact ⟨rfl, S1.out⟩
    by_cases b0 : 0 ≤ by_
    rotate_left
    · skip
      rw [show okM ⟨a, 2, by_, fl⟩ = false from decide_eq_false (fun h => b0 h.2.2.2.1)]
      go_enter Try.func40, Try.ntmps40
      go_wp2_with fail
      rw [← HW1.out]
      clear HW1
      go_ret
      exact ⟨rfl, S1.out⟩
    by_cases b1 : by_ ≤ 65536
    rotate_left
    · skip
      rw [show okM ⟨a, 2, by_, fl⟩ = false from decide_eq_false (fun h => b1 h.2.2.2.2)]
      go_enter Try.func40, Try.ntmps40
      go_wp2_with fail
      rw [← HW1.out]
      clear HW1
      go_ret
      exact ⟨rfl, S1.out⟩
    rw [show okM ⟨a, 2, by_, fl⟩ = true from decide_eq_true ⟨a0, a1, Or.inr rfl, b0, b1⟩]
    go_enter Try.func40, Try.ntmps40
    go_wp2_with fail
    rw [← HW1.out]
    clear HW1
    go_ret
    exact ⟨rfl, S1.out⟩
  · have n1 : (kd != 1) = true := by simpa using h1
    have n2 : (kd != 2) = true := by simpa using h2
    obtain ⟨W1, HW1⟩ : ∃ W1, Hid (W1 = w.alloc (.cells #[.int .i64 a, .int .i64 kd, .int .i64 by_, .int .u8 fl] 45)) := ⟨_, rfl⟩
    have S1 : Hid (Below w.heap.size w W1) := by rw [HW1.out]; exact later_alloc _ _
    have R1 : Hid (RowM W1 w.heap.size ⟨a, kd, by_, fl⟩) := by rw [HW1.out]; exact rowM_new w ⟨a, kd, by_, fl⟩
    obtain ⟨e0, e1, e2, e3⟩ := R1.out.at_
    dsimp only at e0 e1 e2 e3
    rw [show okM ⟨a, kd, by_, fl⟩ = false from decide_eq_false (fun h => h.2.2.1.elim h1 h2)]
    go_enter Try.func40, Try.ntmps40
    go_wp2_with fail
    rw [← HW1.out]
    clear HW1
    go_ret
    exact ⟨rfl, S1.out⟩
set_option maxHeartbeats 8000000 in
set_option maxRecDepth 20000 in
theorem may7_any (A : Option Addr) (n c : Nat) (ms : List M) (w : World) (hn : n ≤ 9223372036854775807) (hA : mishK.Lie w w.heap.size A n ms) :
    Calls Try.prog 26 #[.slice A n c] w (SaysB w (mayM ms)) := by
  have HA := Lib.hid hA
  have HL := Lib.hid hA.len
  clear hA
  by_cases hbig : 24 < n
  · rw [mayM_many (by rw [HL.out]; exact hbig)]
    go_enter Try.func26, Try.ntmps26
    go_wp2_with fail
    go_ret
    exact ⟨rfl, Below.refl _ _⟩
  go_enter Try.func26, Try.ntmps26
  go_wp2_with fail
  go_loopw [10] (fun t10 wr => ∃ (k : Nat), k ≤ n ∧ t10 = .int .i64 k ∧ Hid (∀ j, j < k → stepM ms j = true) ∧ Hid (Below w.heap.size w wr)) (fun t10 _ => n - (intOf t10).toNat)
  case atStart => exact ⟨0, Nat.zero_le _, rfl, fun j hj => absurd hj (Nat.not_lt_zero j), Below.refl _ _⟩
  case round =>
    obtain ⟨k, hk, rfl, HK, HB⟩ := hrel
    have hn24 : (n : Int) ≤ 24 := by omega
    by_cases hlt : k < n
    · obtain ⟨ad, hA, hblk, hat⟩ := mish_at (HA.out.since HB.out) hlt
      subst hA
      have i0 : (0 : Int) ≤ (k : Int) := by omega
      have i1 : (k : Int) < (n : Int) := by omega
      have h4 : ∃ a' : Int, (0 < k → a' = (getM ms (k - 1)).at_) ∧ (0 < k → wr.cell? (ad.add ((k - 1) * 4)) = some (.int .i64 a')) := by
        by_cases hk0 : 0 < k
        · obtain ⟨ad', hA', _, hat'⟩ := mish_at (HA.out.since HB.out) (k := k - 1) (by omega)
          obtain rfl := Option.some.inj hA'
          exact ⟨_, fun _ => rfl, fun _ => hat'.c0⟩
        · exact ⟨0, fun h => absurd h hk0, fun h => absurd h hk0⟩
      obtain ⟨a', hpa, hcp⟩ := h4
      have HPA := Lib.hid hpa
      clear hpa
      have hidx : 0 < k → ∀ W : World, (Instr.indexAt 52 (.slice (some ad) n c) (.int .i64 ((k : Int) - 1))).run Try.prog W = .ok (.pointer (some (ad.add ((k - 1) * 4)))) W := fun hk0 W => by
        have j0 : (0 : Int) ≤ (k : Int) - 1 := by omega
        have j1 : (k : Int) - 1 < (n : Int) := by omega
        have e : ((k : Int) - 1).toNat = k - 1 := by omega
        go_simp
        intro h
        omega
      obtain ⟨e, HV⟩ : ∃ e, Hid (e = getM ms k) := ⟨_, rfl⟩
      rw [← HV.out] at hat
      have HST : Hid (stepM ms k = (okM e && (k == 0 || decide (a' < e.at_)))) := by
        show _ = _
        unfold stepM
        rw [← HV.out]
        by_cases hk0 : 0 < k
        · rw [HPA.out hk0]
        · have : (k == 0) = true := by simp; omega
          rw [this]; simp
      obtain ⟨c0, c1, c2, c3⟩ := hat
      obtain ⟨a, kd, by_, fl⟩ := e
      dsimp only at c0 c1 c2 c3 HST
      go_wp2_with fail
      obtain ⟨W1, HW1⟩ : ∃ W1, Hid (W1 = wr.alloc (.cells #[.int .i64 a, .int .i64 kd, .int .i64 by_, .int .u8 fl] 45)) := ⟨_, rfl⟩
      have L1 : Hid (Below wr.heap.size wr W1) := by rw [HW1.out]; exact later_alloc _ _
      have R1 : Hid (RowM W1 wr.heap.size ⟨a, kd, by_, fl⟩) := by rw [HW1.out]; exact rowM_new wr ⟨a, kd, by_, fl⟩
      have hcp1 : 0 < k → W1.cell? (ad.add ((k - 1) * 4)) = some (.int .i64 a') := fun hk0 => (L1.out.cell (by rw [addr_block]; exact hblk)).trans (hcp hk0)
      have HCP := Lib.hid hcp1
      have HIX := Lib.hid hidx
      rw [← HW1.out]
      clear c0 c1 c2 c3 hcp hcp1 hidx HPA
      obtain ⟨c0, c1, c2, c3⟩ := R1.out.at_
      dsimp only at c0 c1 c2 c3
      have c0 := cell_regrown c0
      have c1 := cell_regrown c1
      have c2 := cell_regrown c2
      have c3 := cell_regrown c3
      have cM := Lib.hid fun (d' : Nat) (os : Array Obj) => quiet_says (maybe7_any ⟨a, kd, by_, fl⟩ (grow (redrawn W1 d') os))
      unfold mishV at cM
      dsimp only at cM
      rcases hok : okM ⟨a, kd, by_, fl⟩ with _ | _
      · rw [hok] at cM HST
        clear HCP HIX
        have HF : Hid (mayM ms = false) := mayM_no (k := k) (by rw [HL.out]; exact hlt) (by rw [HST.out]; rfl)
        refine wp_region_quiet_below (by kernel_rfl) (by kernel_rfl) ?_
        repeat (go_big_quiet_step (first | (go_at_call 40; exact cM.out _ _)))
        refine wpQuiet_nil ?_
        intro W2 hw'
        have S2 : Hid (Below W1.heap.size W1 W2) := by obtain ⟨⟨dq, osq⟩, hw''⟩ := hw'; rw [hw'']; exact below_regrown _ _ _
        clear hw' c0 c1 c2 c3 cM
        try clear cp
        go_wp2_with fail
        go_ret
        rw [HF.out]
        exact ⟨rfl, below_chain HB.out (below_chain L1.out S2.out)⟩
      · rw [hok] at cM HST
        rw [Bool.true_and] at HST
        clear hok
        by_cases hk0 : 0 < k
        · have hk0' : (0 : Int) < (k : Int) := by omega
          have b0 : (k == 0) = false := by simp; omega
          rw [b0, Bool.false_or] at HST
          have ix := HIX.out hk0
          have cp := cell_regrown (HCP.out hk0)
          have hw1 : IntKind.i64.wrap ((k : Int) - 1) = (k : Int) - 1 := by rw [IntKind.wrap_i64]; omega
          clear HCP HIX
          by_cases hle : a ≤ a'
          · skip
            have HF : Hid (mayM ms = false) := mayM_no (k := k) (by rw [HL.out]; exact hlt) (by rw [HST.out]; exact decide_eq_false (by omega))
            refine wp_region_quiet_below (by kernel_rfl) (by kernel_rfl) ?_
            repeat (go_big_quiet_step (first | (go_at_call 40; exact cM.out _ _)))
            refine wpQuiet_nil ?_
            intro W2 hw'
            have S2 : Hid (Below W1.heap.size W1 W2) := by obtain ⟨⟨dq, osq⟩, hw''⟩ := hw'; rw [hw'']; exact below_regrown _ _ _
            clear hw' c0 c1 c2 c3 cM
            try clear cp
            go_wp2_with fail
            go_ret
            rw [HF.out]
            exact ⟨rfl, below_chain HB.out (below_chain L1.out S2.out)⟩
          · skip
            have HF : Hid (stepM ms k = true) := by show _ = _; rw [HST.out]; exact decide_eq_true (by omega)
            refine wp_region_quiet_below (by kernel_rfl) (by kernel_rfl) ?_
            repeat (go_big_quiet_step (first | (go_at_call 40; exact cM.out _ _)))
            refine wpQuiet_nil ?_
            intro W2 hw'
            have S2 : Hid (Below W1.heap.size W1 W2) := by obtain ⟨⟨dq, osq⟩, hw''⟩ := hw'; rw [hw'']; exact below_regrown _ _ _
            clear hw' c0 c1 c2 c3 cM
            try clear cp
            have S3 := Lib.hid (below_chain HB.out (below_chain L1.out S2.out))
            have HK2 : Hid (∀ j, j < k + 1 → stepM ms j = true) := fun j hj => by
              by_cases e : j = k
              · subst e; exact HF.out
              · exact HK.out j (by omega)
            go_wp2_with fail
            go_roundw
            case rel => exact ⟨k + 1, by omega, by go_num, HK2, S3⟩
            case measure => simp [intOf]; omega
        · have hk0' : ¬ (0 : Int) < (k : Int) := by omega
          have b0 : (k == 0) = true := by simp; omega
          rw [b0, Bool.true_or] at HST
          clear HCP HIX
          have HF : Hid (stepM ms k = true) := by show _ = _; rw [HST.out]; all_goals rfl
          refine wp_region_quiet_below (by kernel_rfl) (by kernel_rfl) ?_
          repeat (go_big_quiet_step (first | (go_at_call 40; exact cM.out _ _)))
          refine wpQuiet_nil ?_
          intro W2 hw'
          have S2 : Hid (Below W1.heap.size W1 W2) := by obtain ⟨⟨dq, osq⟩, hw''⟩ := hw'; rw [hw'']; exact below_regrown _ _ _
          clear hw' c0 c1 c2 c3 cM
          try clear cp
          have S3 := Lib.hid (below_chain HB.out (below_chain L1.out S2.out))
          have HK2 : Hid (∀ j, j < k + 1 → stepM ms j = true) := fun j hj => by
            by_cases e : j = k
            · subst e; exact HF.out
            · exact HK.out j (by omega)
          go_wp2_with fail
          go_roundw
          case rel => exact ⟨k + 1, by omega, by go_num, HK2, S3⟩
          case measure => simp [intOf]; omega
    · have HY : Hid (mayM ms = true) := mayM_yes (ms := ms) (by have := HL.out; omega) (fun j hj => HK.out j (by have := HL.out; omega))
      rw [HY.out]
      go_wp2
      go_ret
      exact ⟨by simp [HY.out], HB⟩
end Go.Proofs.Ytgamjffedlkbeaa
