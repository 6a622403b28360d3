/- Contracts of plan's May, Limit, Spread, Page and Place. Conditions: the numbers' size. -/
import Derived.Test.YtgdnpgijaijlhaaPlanOf
set_option linter.unusedVariables false
set_option linter.unusedSimpArgs false
namespace Go.Proofs.Ytgdnpgijaijlhaa
open Go.RowKit Go.Sort

set_option maxHeartbeats 1000000 in
theorem may_any (g : Geo) (w : World) : Calls Try.prog 14 #[geoV g] w (SaysB w (mayG g)) := by
  have S1 := Lib.hid (since_alloc (Below.refl w.heap.size w) (.cells #[.int .i64 g.b, .int .i64 g.p, .int .i64 g.s] 23))
  have G1 := Lib.hid (geoAt_new w g)
  obtain ⟨W1, HW1⟩ : ∃ W1, Hid (W1 = w.alloc (.cells #[.int .i64 g.b, .int .i64 g.p, .int .i64 g.s] 23)) := ⟨_, rfl⟩
  obtain ⟨N, HN⟩ : ∃ N, Hid (ofG g = N) := ⟨_, rfl⟩
  have HM : Hid (mayG g = decide (1 ≤ N.room)) := by show _ = _; rw [← HN.out]; rfl
  rw [HM.out]
  have cO := Lib.hid (fun W => of_any g W)
  unfold geoV at cO ⊢
  go_enter Try.func14, Try.ntmps14
  go_wp2_with fail
  rw [← HW1.out] at S1 G1 ⊢
  clear HW1
  refine (cO.out _).mono ?_
  rw [HN.out]
  unfold numsV
  rintro e W2 ⟨rfl, hb2⟩
  have S2 := Lib.hid (below_chain S1.out hb2.out)
  obtain ⟨n0, n1, n2, n3, n4, n5⟩ := N
  have hf := run_room n0 n1 n2 n3 n4 n5 W2
  dsimp only
  go_wp2_with fail
  go_ret
  exact ⟨rfl, S2⟩
set_option maxHeartbeats 1000000 in
theorem spread_any (g : Geo) (c : Int) (w : World) (h0 : -1073741824 ≤ g.b) (h1 : g.b ≤ 1073741824) (h2 : c ≤ 1073741824) : Calls Try.prog 18 #[geoV g, .int .i64 c] w (SaysV w (.int .i64 (spreadG g c))) := by
  have S1 := Lib.hid (since_alloc (Below.refl w.heap.size w) (.cells #[.int .i64 g.b, .int .i64 g.p, .int .i64 g.s] 23))
  have G1 := Lib.hid (geoAt_new w g)
  obtain ⟨W1, HW1⟩ : ∃ W1, Hid (W1 = w.alloc (.cells #[.int .i64 g.b, .int .i64 g.p, .int .i64 g.s] 23)) := ⟨_, rfl⟩
  obtain ⟨x, HX⟩ : ∃ x, Hid (max c 0 = x) := ⟨_, rfl⟩
  have hx : 0 ≤ x ∧ x ≤ 1073741824 := by rw [← HX.out]; omega
  have HS : Hid (spreadG g c = 4 + g.b + x) := by show _ = _; rw [← HX.out]; rfl
  rw [HS.out]
  obtain ⟨hx0, hx1⟩ := hx
  have hmax := HX.out
  unfold geoV
  by_cases hc : c < 0
  · obtain rfl : x = 0 := by omega
    go_enter Try.func18, Try.ntmps18
    go_wp2_with fail
    go_ret
    exact ⟨by simp, S1⟩
  · obtain rfl : x = c := by omega
    go_enter Try.func18, Try.ntmps18
    go_wp2_with fail
    go_ret
    exact ⟨rfl, S1⟩
set_option maxHeartbeats 2000000 in
theorem limit_any (g : Geo) (bad : Int) (w : World) (h1 : bad ≤ 9223372036854775807) : Calls Try.prog 16 #[geoV g, .int .i64 bad] w (SaysV w (.int .i64 (limitG g bad))) := by
  have S1 := Lib.hid (since_alloc (Below.refl w.heap.size w) (.cells #[.int .i64 g.b, .int .i64 g.p, .int .i64 g.s] 23))
  have G1 := Lib.hid (geoAt_new w g)
  obtain ⟨W1, HW1⟩ : ∃ W1, Hid (W1 = w.alloc (.cells #[.int .i64 g.b, .int .i64 g.p, .int .i64 g.s] 23)) := ⟨_, rfl⟩
  have cM := Lib.hid (fun W => may_any g W)
  have cO := Lib.hid (fun (d : Nat) (os : Array Obj) (W : World) => quiet_saysv (of_any g (grow (redrawn W d) os)))
  cases hm : mayG g with
  | false =>
    rw [show limitG g bad = 0 from if_neg (by rw [hm]; simp)]
    rw [hm] at cM
    clear hm
    unfold geoV at cM ⊢
    go_enter Try.func16, Try.ntmps16
    go_wp2_with fail
    rw [← HW1.out] at S1 G1 ⊢
    clear HW1
    refine (cM.out _).mono ?_
    rintro e W2 ⟨rfl, hb2⟩
    have S2 := Lib.hid (below_chain S1.out hb2.out)
    go_wp2_with fail
    go_ret
    exact ⟨rfl, S2⟩
  | true =>
    rw [hm] at cM
    have hin := mayG_in hm
    by_cases hb : bad < 0
    · rw [show limitG g bad = 0 from if_neg (by omega)]
      clear hm
      unfold geoV at cM ⊢
      go_enter Try.func16, Try.ntmps16
      go_wp2_with fail
      rw [← HW1.out] at S1 G1 ⊢
      clear HW1
      refine (cM.out _).mono ?_
      rintro e W2 ⟨rfl, hb2⟩
      have S2 := Lib.hid (below_chain S1.out hb2.out)
      go_wp2_with fail
      go_ret
      exact ⟨rfl, S2⟩
    have hc := check_in hin
    obtain ⟨i0, i1, i2, i3, i4, i5⟩ := inG_out hin
    obtain ⟨N, HN⟩ : ∃ N, Hid (ofG g = N) := ⟨_, rfl⟩
    have hroom : Hid (N.room ≤ g.b - 7 ∧ 1 ≤ N.room) := by
      have h9 : 1 ≤ (ofG g).room := of_decide_eq_true hm
      refine ⟨?_, by rw [← HN.out]; exact h9⟩
      rw [← HN.out, ofG_in hin]
      show g.b - (2 * checkG g + 5) ≤ g.b - 7
      omega
    have HL : Hid (limitG g bad = max (N.room - bad) 0 * g.p) := by show _ = _; rw [← HN.out]; exact if_pos ⟨hm, by omega⟩
    rw [HN.out] at cO
    obtain ⟨n0, n1, n2, n3, n4, n5⟩ := N
    obtain ⟨r0, r1⟩ := hroom.out
    dsimp only at r0 r1 HL
    unfold numsV at cO
    dsimp only at cO
    have hf := run_room n0 n1 n2 n3 n4 n5
    obtain ⟨x, HX⟩ : ∃ x, Hid (max (n4 - bad) 0 = x) := ⟨_, rfl⟩
    have hx : 0 ≤ x ∧ x ≤ 32 := by rw [← HX.out]; omega
    rw [HX.out] at HL
    obtain ⟨y, HY⟩ : ∃ y, Hid (x * g.p = y) := ⟨_, rfl⟩
    have hy : 0 ≤ y ∧ y ≤ 256 := by
      rw [← HY.out]
      obtain ⟨e0, e1⟩ := hx
      exact ⟨Int.mul_nonneg e0 (by omega), Int.le_trans (Int.mul_le_mul e1 i3 (by omega) (by omega)) (by omega)⟩
    rw [HL.out, HY.out]
    obtain ⟨hx0, hx1⟩ := hx
    obtain ⟨hy0, hy1⟩ := hy
    have hmax := HX.out
    have hmul := HY.out
    clear hm hin hc
    have hw1 : wrap64 (n4 - bad) = n4 - bad := IntWalk.wrap64_in _ (by omega)
    have hw2 : wrap64 y = y := IntWalk.wrap64_in _ (by omega)
    have hw3 : wrap64 0 = 0 := IntWalk.wrap64_in _ (by omega)
    by_cases hmx : n4 - bad < 0
    · obtain rfl : x = 0 := by omega
      obtain rfl : y = 0 := by rw [← hmul]; simp
      unfold geoV at cM cO ⊢
      go_enter Try.func16, Try.ntmps16
      go_wp2_with fail
      rw [← HW1.out] at S1 G1 ⊢
      clear HW1
      refine (cM.out _).mono ?_
      rintro e W2 ⟨rfl, hb2⟩
      have S2 := Lib.hid (below_chain S1.out hb2.out)
      have G2 := Lib.hid (G1.out.since hb2.out)
      clear S1 G1 hb2
      obtain ⟨g0, g1, g2, _⟩ := G2.out
      go_wp2_with fail
      have k0 := cell_regrown g0
      have k1 := cell_regrown g1
      have k2 := cell_regrown g2
      refine wp_region_quiet_below (by kernel_rfl) (by kernel_rfl) ?_
      repeat (go_big_quiet_step (exact cO.out _ _ _))
      refine wpQuiet_nil ?_
      intro W3 hw'
      obtain ⟨⟨dq, osq⟩, hw''⟩ := hw'
      have S3 : Hid (Below w.heap.size w W3) := by rw [hw'']; exact below_chain S2.out (below_regrown W2 dq osq)
      clear hw'' k0 k1 k2 g0 g1 g2
      go_wp2_with fail
      go_ret
      exact ⟨by simp, S3⟩
    · obtain rfl : x = n4 - bad := by omega
      unfold geoV at cM cO ⊢
      go_enter Try.func16, Try.ntmps16
      go_wp2_with fail
      rw [← HW1.out] at S1 G1 ⊢
      clear HW1
      refine (cM.out _).mono ?_
      rintro e W2 ⟨rfl, hb2⟩
      have S2 := Lib.hid (below_chain S1.out hb2.out)
      have G2 := Lib.hid (G1.out.since hb2.out)
      clear S1 G1 hb2
      obtain ⟨g0, g1, g2, _⟩ := G2.out
      go_wp2_with fail
      have k0 := cell_regrown g0
      have k1 := cell_regrown g1
      have k2 := cell_regrown g2
      refine wp_region_quiet_below (by kernel_rfl) (by kernel_rfl) ?_
      repeat (go_big_quiet_step (exact cO.out _ _ _))
      refine wpQuiet_nil ?_
      intro W3 hw'
      obtain ⟨⟨dq, osq⟩, hw''⟩ := hw'
      have S3 : Hid (Below w.heap.size w W3) := by rw [hw'']; exact below_chain S2.out (below_regrown W2 dq osq)
      clear hw'' k0 k1 k2 g0 g1 g2
      go_wp2_with fail
      go_ret
      exact ⟨rfl, S3⟩
def pageIn (g : Geo) (b p : Int) : Bool := decide (mayG g = true ∧ 0 ≤ b ∧ b < g.b ∧ 0 ≤ p ∧ p < g.p)
set_option maxHeartbeats 4000000 in
theorem page_any (g : Geo) (b p : Int) (w : World) : Calls Try.prog 20 #[geoV g, .int .i64 b, .int .i64 p] w (SaysV w (.int .i64 (pageG g b p))) := by
  have S1 := Lib.hid (since_alloc (Below.refl w.heap.size w) (.cells #[.int .i64 g.b, .int .i64 g.p, .int .i64 g.s] 23))
  have G1 := Lib.hid (geoAt_new w g)
  obtain ⟨W1, HW1⟩ : ∃ W1, Hid (W1 = w.alloc (.cells #[.int .i64 g.b, .int .i64 g.p, .int .i64 g.s] 23)) := ⟨_, rfl⟩
  have cM := Lib.hid (fun W => may_any g W)
  have HNO : Hid (¬(mayG g = true ∧ 0 ≤ b ∧ b < g.b ∧ 0 ≤ p ∧ p < g.p) → pageG g b p = -1) := fun h => if_neg h
  have HYES : Hid ((mayG g = true ∧ 0 ≤ b ∧ b < g.b ∧ 0 ≤ p ∧ p < g.p) → pageG g b p = b * g.p + p) := fun h => if_pos h
  cases hm : mayG g with
  | false =>
    rw [HNO.out (by rw [hm]; simp)]
    rw [hm] at cM
    clear hm HNO HYES
    unfold geoV at cM ⊢
    go_enter Try.func20, Try.ntmps20
    go_wp2_with fail
    rw [← HW1.out] at S1 G1 ⊢
    clear HW1
    refine (cM.out _).mono ?_
    rintro e W2 ⟨rfl, hb2⟩
    have S2 := Lib.hid (below_chain S1.out hb2.out)
    go_wp2_with fail
    go_ret
    exact ⟨rfl, S2⟩
  | true =>
    rw [hm] at cM
    obtain ⟨i0, i1, i2, i3, i4, i5⟩ := inG_out (mayG_in hm)
    by_cases h0 : 0 ≤ b
    rotate_left
    · rw [HNO.out (by omega)]
      clear hm HNO HYES
      unfold geoV at cM ⊢
      go_enter Try.func20, Try.ntmps20
      go_wp2_with fail
      rw [← HW1.out] at S1 G1 ⊢
      clear HW1
      refine (cM.out _).mono ?_
      rintro e W2 ⟨rfl, hb2⟩
      have S2 := Lib.hid (below_chain S1.out hb2.out)
      have G2 := Lib.hid (G1.out.since hb2.out)
      clear S1 G1 hb2
      obtain ⟨g0, g1, g2, _⟩ := G2.out
      go_wp2_with fail
      go_ret
      exact ⟨rfl, S2⟩
    by_cases h1 : b < g.b
    rotate_left
    · rw [HNO.out (by omega)]
      clear hm HNO HYES
      unfold geoV at cM ⊢
      go_enter Try.func20, Try.ntmps20
      go_wp2_with fail
      rw [← HW1.out] at S1 G1 ⊢
      clear HW1
      refine (cM.out _).mono ?_
      rintro e W2 ⟨rfl, hb2⟩
      have S2 := Lib.hid (below_chain S1.out hb2.out)
      have G2 := Lib.hid (G1.out.since hb2.out)
      clear S1 G1 hb2
      obtain ⟨g0, g1, g2, _⟩ := G2.out
      go_wp2_with fail
      go_ret
      exact ⟨rfl, S2⟩
    by_cases h2 : 0 ≤ p
    rotate_left
    · rw [HNO.out (by omega)]
      clear hm HNO HYES
      unfold geoV at cM ⊢
      go_enter Try.func20, Try.ntmps20
      go_wp2_with fail
      rw [← HW1.out] at S1 G1 ⊢
      clear HW1
      refine (cM.out _).mono ?_
      rintro e W2 ⟨rfl, hb2⟩
      have S2 := Lib.hid (below_chain S1.out hb2.out)
      have G2 := Lib.hid (G1.out.since hb2.out)
      clear S1 G1 hb2
      obtain ⟨g0, g1, g2, _⟩ := G2.out
      go_wp2_with fail
      go_ret
      exact ⟨rfl, S2⟩
    by_cases h3 : p < g.p
    rotate_left
    · rw [HNO.out (by omega)]
      clear hm HNO HYES
      unfold geoV at cM ⊢
      go_enter Try.func20, Try.ntmps20
      go_wp2_with fail
      rw [← HW1.out] at S1 G1 ⊢
      clear HW1
      refine (cM.out _).mono ?_
      rintro e W2 ⟨rfl, hb2⟩
      have S2 := Lib.hid (below_chain S1.out hb2.out)
      have G2 := Lib.hid (G1.out.since hb2.out)
      clear S1 G1 hb2
      obtain ⟨g0, g1, g2, _⟩ := G2.out
      go_wp2_with fail
      go_ret
      exact ⟨rfl, S2⟩
    rw [HYES.out ⟨hm, h0, h1, h2, h3⟩]
    obtain ⟨y, HY⟩ : ∃ y, Hid (b * g.p = y) := ⟨_, rfl⟩
    have hy : 0 ≤ y ∧ y ≤ 256 := by
      rw [← HY.out]
      exact ⟨Int.mul_nonneg h0 (by omega), Int.le_trans (Int.mul_le_mul (by omega : b ≤ 32) i3 (by omega) (by omega)) (by omega)⟩
    obtain ⟨hy0, hy1⟩ := hy
    rw [HY.out]
    have hmul := HY.out
    clear hm HNO HYES
    unfold geoV at cM ⊢
    go_enter Try.func20, Try.ntmps20
    go_wp2_with fail
    rw [← HW1.out] at S1 G1 ⊢
    clear HW1
    refine (cM.out _).mono ?_
    rintro e W2 ⟨rfl, hb2⟩
    have S2 := Lib.hid (below_chain S1.out hb2.out)
    have G2 := Lib.hid (G1.out.since hb2.out)
    clear S1 G1 hb2
    obtain ⟨g0, g1, g2, _⟩ := G2.out
    go_wp2_with fail
    go_ret
    exact ⟨rfl, S2⟩
set_option maxHeartbeats 4000000 in
theorem place_any (g : Geo) (n : Int) (w : World) : Calls Try.prog 10 #[geoV g, .int .i64 n] w (SaysV w (.tuple #[.int .i64 (placeG g n).1, .int .i64 (placeG g n).2])) := by
  have S1 := Lib.hid (since_alloc (Below.refl w.heap.size w) (.cells #[.int .i64 g.b, .int .i64 g.p, .int .i64 g.s] 23))
  have G1 := Lib.hid (geoAt_new w g)
  obtain ⟨W1, HW1⟩ : ∃ W1, Hid (W1 = w.alloc (.cells #[.int .i64 g.b, .int .i64 g.p, .int .i64 g.s] 23)) := ⟨_, rfl⟩
  have cM := Lib.hid (fun W => may_any g W)
  have HNO : Hid (placeIn g n = false → placeG g n = (-1, -1)) := fun h => if_neg (by rw [h]; decide)
  have HYES : Hid (placeIn g n = true → placeG g n = (n / g.p, n % g.p)) := fun h => if_pos h
  cases hm : mayG g with
  | false =>
    rw [HNO.out (by unfold placeIn; rw [hm]; rfl)]
    rw [hm] at cM
    clear hm HNO HYES
    unfold geoV at cM ⊢
    go_enter Try.func10, Try.ntmps10
    go_wp2_with fail
    rw [← HW1.out] at S1 G1 ⊢
    clear HW1
    refine (cM.out _).mono ?_
    rintro e W2 ⟨rfl, hb2⟩
    have S2 := Lib.hid (below_chain S1.out hb2.out)
    go_wp2_with fail
    go_ret2
    exact ⟨rfl, S2⟩
  | true =>
    rw [hm] at cM
    obtain ⟨i0, i1, i2, i3, i4, i5⟩ := inG_out (mayG_in hm)
    have ha := area_bd (mayG_in hm)
    obtain ⟨y, HY⟩ : ∃ y, Hid (g.b * g.p = y) := ⟨_, rfl⟩
    rw [HY.out] at ha
    obtain ⟨ha0, ha1⟩ := ha
    have hmul := HY.out
    have HIN : Hid (placeIn g n = decide (0 ≤ n ∧ n < y)) := by show _ = _; unfold placeIn; rw [hm, hmul]; rfl
    by_cases h0 : 0 ≤ n
    rotate_left
    · rw [HNO.out (by rw [HIN.out]; exact decide_eq_false (by omega))]
      clear hm HNO HYES HIN
      unfold geoV at cM ⊢
      go_enter Try.func10, Try.ntmps10
      go_wp2_with fail
      rw [← HW1.out] at S1 G1 ⊢
      clear HW1
      refine (cM.out _).mono ?_
      rintro e W2 ⟨rfl, hb2⟩
      have S2 := Lib.hid (below_chain S1.out hb2.out)
      have G2 := Lib.hid (G1.out.since hb2.out)
      clear S1 G1 hb2
      obtain ⟨g0, g1, g2, _⟩ := G2.out
      go_wp2_with fail
      go_ret2
      exact ⟨rfl, S2⟩
    by_cases h1 : n < y
    rotate_left
    · rw [HNO.out (by rw [HIN.out]; exact decide_eq_false (by omega))]
      clear hm HNO HYES HIN
      unfold geoV at cM ⊢
      go_enter Try.func10, Try.ntmps10
      go_wp2_with fail
      rw [← HW1.out] at S1 G1 ⊢
      clear HW1
      refine (cM.out _).mono ?_
      rintro e W2 ⟨rfl, hb2⟩
      have S2 := Lib.hid (below_chain S1.out hb2.out)
      have G2 := Lib.hid (G1.out.since hb2.out)
      clear S1 G1 hb2
      obtain ⟨g0, g1, g2, _⟩ := G2.out
      go_wp2_with fail
      go_ret2
      exact ⟨rfl, S2⟩
    rw [HYES.out (by rw [HIN.out]; exact decide_eq_true ⟨h0, h1⟩)]
    have hq0 : 0 ≤ n / g.p := Int.ediv_nonneg h0 (by omega)
    have hq1 : n / g.p ≤ n := Int.ediv_le_self _ h0
    have hq2 : 0 ≤ n % g.p := Int.emod_nonneg _ (by omega)
    have hq3 : n % g.p < g.p := Int.emod_lt_of_pos _ (by omega)
    have hpz : (g.p == 0) = false := by simp; omega
    clear hm HNO HYES HIN
    unfold geoV at cM ⊢
    go_enter Try.func10, Try.ntmps10
    go_wp2_with fail
    rw [← HW1.out] at S1 G1 ⊢
    clear HW1
    refine (cM.out _).mono ?_
    rintro e W2 ⟨rfl, hb2⟩
    have S2 := Lib.hid (below_chain S1.out hb2.out)
    have G2 := Lib.hid (G1.out.since hb2.out)
    clear S1 G1 hb2
    obtain ⟨g0, g1, g2, _⟩ := G2.out
    go_wp2_with fail
    obtain ⟨g0, g1, g2, _⟩ := G2.out
    go_quiet (fail)
    go_wp2_with fail
    go_ret2
    exact ⟨rfl, below_drewN S2.out _⟩
end Go.Proofs.Ytgdnpgijaijlhaa
