/- MishapParts answers true, for all mishaps and numbers. Conditions: the mishaps' cells. -/
import Derived.Test.YtgonphcjkoobmaaPartsMath
set_option linter.unusedVariables false
set_option linter.unusedSimpArgs false
namespace Go.Proofs.Ytgonphcjkoobmaa
open Go.RowKit

set_option maxHeartbeats 16000000 in
set_option maxRecDepth 20000 in
theorem parts_law (A : Option Addr) (n c : Nat) (ms : List M) (x y : Int) (w : World) (hn : n ≤ 9223372036854775807) (hA : mishK.Lie w w.heap.size A n ms) :
    Calls Try.prog 4 #[.slice A n c, .int .i64 x, .int .i64 y] w (SaysB w true) := by
  by_cases h40 : 40 < n
  · clear hA
    go_enter Try.func4, Try.ntmps4
    go_wp2_with fail
    refine (awake7_any _).mono ?_
    rintro e W1 ⟨rfl, hb⟩
    go_wp2_with fail
    go_ret
    exact ⟨rfl, hb⟩
  have C3 := Lib.hid fun W => may7_any A n c ms W hn
  have HA := Lib.hid hA
  have HL := Lib.hid hA.len
  clear hA
  rcases hq : mayM ms with _ | _
  · rw [hq] at C3
    go_enter Try.func4, Try.ntmps4
    go_wp2_with fail
    refine (C3.out _ HA.out).mono ?_
    rintro e W1 ⟨rfl, hb1⟩
    go_wp2_with fail
    refine (awake7_any _).mono ?_
    rintro e W2 ⟨rfl, hb2⟩
    have S2 := Lib.hid (below_chain hb1.out hb2.out)
    go_wp2_with fail
    go_ret
    exact ⟨rfl, S2⟩
  · have HQ := Lib.hid hq
    rw [hq] at C3
    obtain ⟨d, HD⟩ : ∃ d : Nat, Hid (darksM ms = d) := ⟨_, rfl⟩
    have hdn : d ≤ n := by rw [← HD.out, ← HL.out]; exact darksM_len ms
    have C5 := Lib.hid fun W => darks7_any A n c ms W (by omega)
    rw [HD.out] at C5
    obtain ⟨lo, hi, hlh, hmin, hmax⟩ : ∃ lo hi : Int, lo ≤ hi ∧ (∀ ts ty w, (Builtin.min_ ts ty #[.int .i64 x, .int .i64 y]).run Try.prog w = .ok (.int .i64 lo) w) ∧ (∀ ts ty w, (Builtin.max_ ts ty #[.int .i64 x, .int .i64 y]).run Try.prog w = .ok (.int .i64 hi) w) := by
      by_cases h : x ≤ y
      · exact ⟨x, y, h, fun ts ty w => min_at ts ty _ _ _ (Or.inl ⟨h, rfl⟩) w, fun ts ty w => max_at ts ty _ _ _ (Or.inr ⟨h, rfl⟩) w⟩
      · exact ⟨y, x, by omega, fun ts ty w => min_at ts ty _ _ _ (Or.inr ⟨by omega, rfl⟩) w, fun ts ty w => max_at ts ty _ _ _ (Or.inl ⟨by omega, rfl⟩) w⟩
    have HLH := Lib.hid hlh
    have C7 := Lib.hid fun W => after7_any lo A n c ms W (by omega)
    have C8 := Lib.hid fun W => after7_any hi A n c ms W (by omega)
    clear hq hlh
    go_enter Try.func4, Try.ntmps4
    go_wp2_with fail
    refine (C3.out _ HA.out).mono ?_
    rintro e W1 ⟨rfl, hb1⟩
    have S1 := Lib.hid hb1.out
    clear hb1
    go_wp2_with fail
    go_loopw [7] (fun t7 wr => ∃ (k : Nat), k ≤ n ∧ t7 = .int .i64 k ∧ Hid (Below w.heap.size w wr)) (fun t7 _ => n - (intOf t7).toNat)
    case atStart => exact ⟨0, Nat.zero_le _, rfl, S1⟩
    case round =>
      obtain ⟨k, hk, rfl, HB⟩ := hrel
      by_cases hlt : k < n
      · obtain ⟨ad, rfl, hblk, hat⟩ := mish_at (HA.out.since HB.out) hlt
        have i0 : (0 : Int) ≤ (k : Int) := by omega
        have i1 : (k : Int) < (n : Int) := by omega
        have HAT := Lib.hid (atM_self HQ.out (k := k) (by rw [HL.out]; exact hlt))
        have HGM := Lib.hid fun (W : World) (hW : Below w.heap.size w W) => by
          obtain ⟨ad', e1, _, h2⟩ := mish_at (HA.out.since hW) hlt
          exact (Option.some.inj e1) ▸ h2
        obtain ⟨m, HM⟩ : ∃ m, Hid (m = getM ms k) := ⟨_, rfl⟩
        rw [← HM.out] at hat HAT HGM
        obtain ⟨a, kd, by_, fl⟩ := m
        obtain ⟨c0, c1, c2, c3⟩ := hat
        dsimp only at c0 c1 c2 c3 HAT
        have C1 := Lib.hid (at7_any a (some ad) n c ms wr hn (HA.out.since HB.out))
        rw [HAT.out] at C1
        unfold atV mishV at C1
        dsimp only at C1
        go_wp2_with fail
        refine C1.out.mono ?_
        rintro e W2 ⟨rfl, hb2⟩
        have S2 := Lib.hid (below_chain HB.out hb2.out)
        have S3 := Lib.hid (since_alloc S2.out (.cells #[.int .i64 a, .int .i64 kd, .int .i64 by_, .int .u8 fl] 25))
        obtain ⟨W3, HW3⟩ : ∃ W3, Hid (W3 = W2.alloc (.cells #[.int .i64 a, .int .i64 kd, .int .i64 by_, .int .u8 fl] 25)) := ⟨_, rfl⟩
        have R3 : Hid (RowM W3 W2.heap.size ⟨a, kd, by_, fl⟩) := by rw [HW3.out]; exact rowM_new W2 ⟨a, kd, by_, fl⟩
        rw [← HW3.out] at S3
        clear c0 c1 c2 c3 hb2 C1
        go_wp2_with fail
        rw [← HW3.out]
        obtain ⟨d0, d1, d2, d3⟩ := R3.out.at_
        obtain ⟨e0, e1, e2, e3⟩ := HGM.out W3 S3.out
        dsimp only at d0 d1 d2 d3 e0 e1 e2 e3
        go_quiet (fail)
        go_wp2_with fail
        go_roundw
        case rel => exact ⟨k + 1, by omega, by go_num, below_drewN S3.out _⟩
        case measure => simp [intOf]; omega
      · go_wp2_with (first | (at_builtin; simp only [hmin, hmax]) | (simp only [hmin, hmax]))
        refine (C7.out _ (HA.out.since HB.out)).mono ?_
        rintro e W2 ⟨A2, n2, c2, rfl, O2, hb2⟩
        have S2 := Lib.hid (below_chain HB.out hb2.out)
        have hn2 : n2 ≤ n := by rw [← O2.out.len, ← HL.out]; exact afterM_len lo ms
        clear hb2
        go_wp2_with fail
        refine (after7_any hi A2 n2 c2 _ _ (by omega) O2.out.lie).mono ?_
        rw [afterM_after HLH.out]
        rintro e W3 ⟨A3, n3, c3, rfl, O3, hb3⟩
        have S3 := Lib.hid (below_chain S2.out hb3.out)
        have hn3 : n3 ≤ n := by rw [← O3.out.len, ← HL.out]; exact afterM_len hi ms
        clear hb3 S2 O2
        go_wp2_with fail
        refine (C8.out _ (HA.out.since S3.out)).mono ?_
        rintro e W4 ⟨A4, n4, c4, rfl, O4, hb4⟩
        have S4 := Lib.hid (below_chain S3.out hb4.out)
        obtain rfl : n3 = n4 := O3.out.len.symm.trans O4.out.len
        have P4 := Lib.hid (O3.out.since hb4.out)
        clear hb4 S3 O3
        go_wp2_with fail
        refine (samemish_yes A3 A4 n3 c3 c4 _ _ (by omega) P4.out.lie O4.out.lie).mono ?_
        rintro e W5 ⟨rfl, hb5⟩
        have S5 := Lib.hid (below_chain S4.out hb5.out)
        clear hb5 S4 P4 O4
        go_wp2_with fail
        refine (C7.out _ (HA.out.since S5.out)).mono ?_
        rintro e W6 ⟨A6, n6, c6, rfl, O6, hb6⟩
        have S6 := Lib.hid (below_chain S5.out hb6.out)
        have hn6 : n6 ≤ n := by rw [← O6.out.len, ← HL.out]; exact afterM_len lo ms
        clear hb6 S5
        go_wp2_with fail
        refine (may7_any A6 n6 c6 _ _ (by omega) O6.out.lie).mono ?_
        rw [mayM_after HQ.out]
        rintro e W7 ⟨rfl, hb7⟩
        have S7 := Lib.hid (below_chain S6.out hb7.out)
        clear hb7 S6 O6
        go_wp2_with fail
        refine (C5.out _ (HA.out.since S7.out)).mono ?_
        rintro e W8 ⟨rfl, hb8⟩
        have S8 := Lib.hid (below_chain S7.out hb8.out)
        clear hb8 S7
        have hdi : ((d : Nat) : Int) ≤ ((n : Nat) : Int) := by omega
        go_wp2_with fail
        refine (awake7_any _).mono ?_
        rintro e W9 ⟨rfl, hb9⟩
        have S9 := Lib.hid (below_chain S8.out hb9.out)
        go_wp2_with fail
        go_ret
        exact ⟨rfl, S9⟩
end Go.Proofs.Ytgonphcjkoobmaa
