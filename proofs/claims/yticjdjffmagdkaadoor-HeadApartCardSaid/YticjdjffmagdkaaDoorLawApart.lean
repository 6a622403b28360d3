/- HeadApart answers true, for all numbers and heads. Conditions: what the listed variables hold. -/
import Derived.Test.YticjdjffmagdkaaDoorHeadLaw
set_option linter.unusedVariables false
set_option linter.unusedSimpArgs false
namespace Go.Proofs.YticjdjffmagdkaaDoor
open Go.RowKit Go.Sort

theorem apart_math {xs ys : List Nat} {K A S G K' A' S' G' : Int} (hl : xs.length = ys.length) (h1 : mayB K A S G = true) (h2 : mayB K' A' S' G' = true) (a0 : 0 ≤ A) (a1 : A ≤ 18446744073709551615) (b0 : 0 ≤ A') (b1 : A' ≤ 18446744073709551615) :
    sameB (Hd.page xs (hN K A S G)) (Hd.page ys (hN K' A' S' G')) = (headB K A S G K' A' S' G' && sameB xs ys) := by
  have k1 := mayB_out h1
  have k2 := mayB_out h2
  by_cases h : headB K A S G K' A' S' G' = true ∧ sameB xs ys = true
  · obtain ⟨hh, hs⟩ := h
    have e1 := of_decide_eq_true hh
    have e2 := of_decide_eq_true hs
    obtain ⟨rfl, rfl, rfl, rfl⟩ := e1
    subst e2
    rw [hh, hs]
    exact decide_eq_true rfl
  · have hf : (headB K A S G K' A' S' G' && sameB xs ys) = false := by
      cases hb : headB K A S G K' A' S' G' <;> cases hs : sameB xs ys <;> simp
      exact h ⟨hb, hs⟩
    rw [hf]
    refine decide_eq_false fun e => h ?_
    obtain ⟨e1, e2⟩ := Hd.page_inj hl (hN_ok h1 a0 a1) (hN_ok h2 b0 b1) e
    unfold hN at e2
    injection e2 with i1 i2 i3 i4
    exact ⟨decide_eq_true ⟨by omega, by omega, by omega, by omega⟩, decide_eq_true e1⟩
set_option maxHeartbeats 8000000 in
theorem apart_law (x y z K1 A1 S1 G1 K2 A2 S2 G2 : Int) (w : World) (hT : Tabs w) (hW : Wid w) (y0 : -9223372036854775808 ≤ y) (y1 : y ≤ 9223372036854775807) (z0 : -9223372036854775808 ≤ z) (z1 : z ≤ 9223372036854775807)
    (a10 : 0 ≤ A1) (a11 : A1 ≤ 18446744073709551615) (a20 : 0 ≤ A2) (a21 : A2 ≤ 18446744073709551615) :
    Calls Tryd.prog 6 #[.int .i64 x, .int .i64 y, .int .i64 z, .agg #[.int .i64 K1, .int .u64 A1, .int .i64 S1, .int .i64 G1], .agg #[.int .i64 K2, .int .u64 A2, .int .i64 S2, .int .i64 G2]] w fun e w' => e = .returned (.bool true) ∧ Below w.heap.size w w' := by
  have HT := Lib.hid hT
  have HW := Lib.hid hW
  obtain ⟨q, N, hq, q0, q1, HN, N0, N1⟩ := size_of x
  have HQ := Lib.hid hq
  obtain ⟨b1, HB1⟩ : ∃ b, Hid (mayB K1 A1 S1 G1 = b) := ⟨_, rfl⟩
  obtain ⟨b2, HB2⟩ : ∃ b, Hid (mayB K2 A2 S2 G2 = b) := ⟨_, rfl⟩
  obtain ⟨xs, HX⟩ : ∃ l, Hid (fillL y N = l) := ⟨_, rfl⟩
  obtain ⟨ys, HY⟩ : ∃ l, Hid (fillL z N = l) := ⟨_, rfl⟩
  have HXL : Hid (xs.length = N) := by rw [← HX.out]; exact fillL_len y N
  have HYL : Hid (ys.length = N) := by rw [← HY.out]; exact fillL_len z N
  have S1' := Lib.hid (since_alloc (Below.refl w.heap.size w) (.cells #[.int .i64 K1, .int .u64 A1, .int .i64 S1, .int .i64 G1] 25))
  have S2' := Lib.hid (since_alloc S1'.out (.cells #[.int .i64 K2, .int .u64 A2, .int .i64 S2, .int .i64 G2] 25))
  have HH1 := Lib.hid ((headAt_new w K1 A1 S1 G1 25).since (later_alloc _ (.cells #[.int .i64 K2, .int .u64 A2, .int .i64 S2, .int .i64 G2] 25)))
  have HH2 := Lib.hid (headAt_new (w.alloc (.cells #[.int .i64 K1, .int .u64 A1, .int .i64 S1, .int .i64 G1] 25)) K2 A2 S2 G2 25)
  have hz2 : (w.alloc (.cells #[.int .i64 K1, .int .u64 A1, .int .i64 S1, .int .i64 G1] 25)).heap.size = w.heap.size + 1 := by simp
  rw [hz2] at HH2
  clear hT hW hq hz2
  go_enter Tryd.func6, Tryd.ntmps6
  go_wp2_with fail
  obtain ⟨W1, HW1⟩ : ∃ W1, Hid (W1 = (w.alloc (.cells #[.int .i64 K1, .int .u64 A1, .int .i64 S1, .int .i64 G1] 25)).alloc (.cells #[.int .i64 K2, .int .u64 A2, .int .i64 S2, .int .i64 G2] 25)) := ⟨_, rfl⟩
  rw [← HW1.out] at S2' HH1 HH2 ⊢
  clear S1' HW1
  refine (low_any x 129 (by omega) (by omega) _).mono ?_
  rw [HQ.out]
  rintro e W2 ⟨rfl, rfl⟩
  go_wp2_with fail
  refine (fill_any y (128 + q) N _ HN.out y0 y1 (by omega)).mono ?_
  rw [HX.out]
  rintro e W3 ⟨B1, n1, c1, rfl, ho1, hb3⟩
  obtain rfl : N = n1 := by rw [← ho1.len, HXL.out]
  have OX := Lib.hid ho1
  have S3 := Lib.hid (below_chain S2'.out hb3)
  have H31 := Lib.hid (HH1.out.since hb3)
  have H32 := Lib.hid (HH2.out.since hb3)
  clear ho1 hb3 S2' HH1 HH2
  go_wp2_with fail
  refine (fill_any z (128 + q) N _ HN.out z0 z1 (by omega)).mono ?_
  rw [HY.out]
  rintro e W4 ⟨B2, n2, c2, rfl, ho2, hb4⟩
  obtain rfl : N = n2 := by rw [← ho2.len, HYL.out]
  have OY := Lib.hid ho2
  have OX4 := Lib.hid (OX.out.since hb4)
  have S4 := Lib.hid (below_chain S3.out hb4)
  have H41 := Lib.hid (H31.out.since hb4)
  have H42 := Lib.hid (H32.out.since hb4)
  obtain ⟨k0, k1, k2, k3⟩ := H41.out
  clear ho2 hb4 S3 H31 H32 OX
  go_wp2_with fail
  refine (lay_any B1 N c1 xs K1 A1 S1 G1 _ (HT.out.since S4.out) (HW.out.since S4.out) (by omega) OX4.out.bytes a10 a11).mono ?_
  rw [layO_may (by rw [← HX.out]; exact fill_data N0 N1), HB1.out]
  rintro e W5 ⟨v1, rfl, HV1, hb5⟩
  have O1 := Lib.hid HV1
  have S5 := Lib.hid (below_chain S4.out hb5.out)
  have OX5 := Lib.hid (OX4.out.since hb5.out)
  have OY5 := Lib.hid (OY.out.since hb5.out)
  have H51 := Lib.hid (H41.out.since hb5.out)
  have H52 := Lib.hid (H42.out.since hb5.out)
  clear HV1 hb5 S4 H41 H42 OX4 OY k0 k1 k2 k3
  obtain ⟨k0, k1, k2, k3⟩ := H52.out
  rcases b1 with _ | _
  · obtain ⟨e1, rfl, hp1⟩ := out_no O1.out
    clear O1 hp1
    go_wp2_with fail
    refine (lay_any B2 N c2 ys K2 A2 S2 G2 _ (HT.out.since S5.out) (HW.out.since S5.out) (by omega) OY5.out.bytes a20 a21).mono ?_
    rw [layO_may (by rw [← HY.out]; exact fill_data N0 N1), HB2.out]
    rintro e W6 ⟨v2, rfl, HV2, hb6⟩
    have O2 := Lib.hid HV2
    have S6 := Lib.hid (below_chain S5.out hb6.out)
    have OX6 := Lib.hid (OX5.out.since hb6.out)
    have OY6 := Lib.hid (OY5.out.since hb6.out)
    have H61 := Lib.hid (H51.out.since hb6.out)
    have H62 := Lib.hid (H52.out.since hb6.out)
    have hT6 := HT.out.since S6.out
    have hW6 := HW.out.since S6.out
    clear HV2 hb6 S5 H51 H52 OX5 OY5 k0 k1 k2 k3
    have i0 := cell_regrown H61.out.k
    have i1 := cell_regrown H61.out.a
    have i2 := cell_regrown H61.out.s
    have i3 := cell_regrown H61.out.g
    have j0 := cell_regrown H62.out.k
    have j1 := cell_regrown H62.out.a
    have j2 := cell_regrown H62.out.s
    have j3 := cell_regrown H62.out.g
    have cA := Lib.hid (regrown_awake hT6 hW6)
    clear hT6 hW6
    rcases b2 with _ | _
    · obtain ⟨e2, rfl, hp2⟩ := out_no O2.out
      clear O2 hp2
      have cM := Lib.hid (regrown_may (W := W6) HB1.out)
      have cN := Lib.hid (regrown_may (W := W6) HB2.out)
      go_wp2_with fail
      refine wp_region_quiet_below (by kernel_rfl) (by kernel_rfl) ?_
      repeat (go_big_quiet_step (first | (go_at_call 8; exact cA.out _ _) | (go_at_call_of 16 (Value.int IntKind.u64 A1); exact cM.out _ _) | (go_at_call 16; exact cN.out _ _)))
      refine wpQuiet_nil ?_
      intro _ hw'
      obtain ⟨⟨dq, osq⟩, hw''⟩ := hw'
      subst hw''
      go_wp2
      go_ret
      exact ⟨rfl, below_chain S6.out (below_regrown W6 dq osq)⟩
    · obtain ⟨D2, m2, d2, rfl, hp2⟩ := out_yes O2.out
      have Q6 := Lib.hid hp2
      clear O2 hp2
      have cM := Lib.hid (regrown_may (W := W6) HB1.out)
      have cN := Lib.hid (regrown_may (W := W6) HB2.out)
      go_wp2_with fail
      refine wp_region_quiet_below (by kernel_rfl) (by kernel_rfl) ?_
      repeat (go_big_quiet_step (first | (go_at_call 8; exact cA.out _ _) | (go_at_call_of 16 (Value.int IntKind.u64 A1); exact cM.out _ _) | (go_at_call 16; exact cN.out _ _)))
      refine wpQuiet_nil ?_
      intro _ hw'
      obtain ⟨⟨dq, osq⟩, hw''⟩ := hw'
      subst hw''
      go_wp2
      go_ret
      exact ⟨rfl, below_chain S6.out (below_regrown W6 dq osq)⟩
  · obtain ⟨D1, m1, d1, rfl, hp1⟩ := out_yes O1.out
    have P5 := Lib.hid hp1
    clear O1 hp1
    go_wp2_with fail
    refine (lay_any B2 N c2 ys K2 A2 S2 G2 _ (HT.out.since S5.out) (HW.out.since S5.out) (by omega) OY5.out.bytes a20 a21).mono ?_
    rw [layO_may (by rw [← HY.out]; exact fill_data N0 N1), HB2.out]
    rintro e W6 ⟨v2, rfl, HV2, hb6⟩
    have O2 := Lib.hid HV2
    have S6 := Lib.hid (below_chain S5.out hb6.out)
    have OX6 := Lib.hid (OX5.out.since hb6.out)
    have OY6 := Lib.hid (OY5.out.since hb6.out)
    have H61 := Lib.hid (H51.out.since hb6.out)
    have H62 := Lib.hid (H52.out.since hb6.out)
    have hT6 := HT.out.since S6.out
    have hW6 := HW.out.since S6.out
    have P6 := Lib.hid (P5.out.since hb6.out)
    clear HV2 hb6 S5 H51 H52 OX5 OY5 k0 k1 k2 k3
    have i0 := cell_regrown H61.out.k
    have i1 := cell_regrown H61.out.a
    have i2 := cell_regrown H61.out.s
    have i3 := cell_regrown H61.out.g
    have j0 := cell_regrown H62.out.k
    have j1 := cell_regrown H62.out.a
    have j2 := cell_regrown H62.out.s
    have j3 := cell_regrown H62.out.g
    have cA := Lib.hid (regrown_awake hT6 hW6)
    clear hT6 hW6
    rcases b2 with _ | _
    · obtain ⟨e2, rfl, hp2⟩ := out_no O2.out
      clear O2 hp2
      have cM := Lib.hid (regrown_may (W := W6) HB1.out)
      have cN := Lib.hid (regrown_may (W := W6) HB2.out)
      go_wp2_with fail
      refine wp_region_quiet_below (by kernel_rfl) (by kernel_rfl) ?_
      repeat (go_big_quiet_step (first | (go_at_call 8; exact cA.out _ _) | (go_at_call_of 16 (Value.int IntKind.u64 A1); exact cM.out _ _) | (go_at_call 16; exact cN.out _ _)))
      refine wpQuiet_nil ?_
      intro _ hw'
      obtain ⟨⟨dq, osq⟩, hw''⟩ := hw'
      subst hw''
      go_wp2
      go_ret
      exact ⟨rfl, below_chain S6.out (below_regrown W6 dq osq)⟩
    · obtain ⟨D2, m2, d2, rfl, hp2⟩ := out_yes O2.out
      have Q6 := Lib.hid hp2
      clear O2 hp2
      have HE := Lib.hid (apart_math (HXL.out.trans HYL.out.symm) HB1.out HB2.out a10 a11 a20 a21)
      have HM1 : Hid (m1 ≤ 900) := by have := P6.out.len; rw [Hd.page_len, HXL.out] at this; show _ ≤ _; omega
      have HM2 : Hid (m2 ≤ 900) := by have := Q6.out.len; rw [Hd.page_len, HYL.out] at this; show _ ≤ _; omega
      have hq0 : ∀ W : World, (binOp .eql 25 (.agg #[.int .i64 K1, .int .u64 A1, .int .i64 S1, .int .i64 G1]) (.agg #[.int .i64 K2, .int .u64 A2, .int .i64 S2, .int .i64 G2])).run Tryd.prog W = .ok (.bool (headB K1 A1 S1 G1 K2 A2 S2 G2)) W := run_eql_head K1 A1 S1 G1 K2 A2 S2 G2
      obtain ⟨s1, HS1⟩ : ∃ b, Hid (sameB (Hd.page xs (hN K1 A1 S1 G1)) (Hd.page ys (hN K2 A2 S2 G2)) = b) := ⟨_, rfl⟩
      obtain ⟨s2, HS2⟩ : ∃ b, Hid (headB K1 A1 S1 G1 K2 A2 S2 G2 = b) := ⟨_, rfl⟩
      obtain ⟨s3, HS3⟩ : ∃ b, Hid (sameB xs ys = b) := ⟨_, rfl⟩
      rw [HS2.out] at hq0
      have hs : s1 = (s2 && s3) := by rw [← HS1.out, ← HS2.out, ← HS3.out]; exact HE.out
      have HQ0 := Lib.hid hq0
      have cP := Lib.hid (regrown_same (c := d1) (c' := d2) HM1.out HM2.out P6.out.bytes Q6.out.bytes HS1.out)
      have cX := Lib.hid (regrown_same (b := s3) (c := c1) (c' := c2) (by omega) (by omega) OX6.out.bytes OY6.out.bytes HS3.out)
      clear hq0 HE HS1 HS2 HS3
      go_wp2_with fail
      rcases s2 with _ | _
      · subst hs
        have hq0 := HQ0.out
        refine wp_region_quiet_below (by kernel_rfl) (by kernel_rfl) ?_
        repeat (go_big_quiet_step (first | (go_at_call 8; exact cA.out _ _) | (go_at_call_of 14 (Value.slice D1 m1 d1); exact cP.out _ _) | (go_at_call 14; exact cX.out _ _)))
        refine wpQuiet_nil ?_
        intro _ hw'
        obtain ⟨⟨dq, osq⟩, hw''⟩ := hw'
        subst hw''
        go_wp2
        go_ret
        exact ⟨rfl, below_chain S6.out (below_regrown W6 dq osq)⟩
      · rcases s3 with _ | _
        all_goals
          obtain rfl := hs
          have hq0 := HQ0.out
          refine wp_region_quiet_below (by kernel_rfl) (by kernel_rfl) ?_
          repeat (go_big_quiet_step (first | (go_at_call 8; exact cA.out _ _) | (go_at_call_of 14 (Value.slice D1 m1 d1); exact cP.out _ _) | (go_at_call 14; exact cX.out _ _)))
          refine wpQuiet_nil ?_
          intro _ hw'
          obtain ⟨⟨dq, osq⟩, hw''⟩ := hw'
          subst hw''
          go_wp2
          go_ret
          exact ⟨rfl, below_chain S6.out (below_regrown W6 dq osq)⟩
end Go.Proofs.YticjdjffmagdkaaDoor
