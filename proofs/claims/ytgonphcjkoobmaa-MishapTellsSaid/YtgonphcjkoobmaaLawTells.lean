/- MishapTells answers true, for all mishaps and numbers. Conditions: the mishaps' cells. -/
import Derived.Test.YtgonphcjkoobmaaMishAwake
set_option linter.unusedVariables false
set_option linter.unusedSimpArgs false
namespace Go.Proofs.Ytgonphcjkoobmaa
open Go.RowKit

theorem atV_form (o : Option M) : ∃ m b, atV o = .tuple #[mishV m, .bool b] := by
  cases o with
  | none => exact ⟨M.zero, false, rfl⟩
  | some m => exact ⟨m, true, rfl⟩
set_option maxHeartbeats 16000000 in
set_option maxRecDepth 20000 in
theorem tells_law (A : Option Addr) (n c : Nat) (ms : List M) (y : Int) (w : World) (hn : n ≤ 9223372036854775807) (hA : mishK.Lie w w.heap.size A n ms) :
    Calls Try.prog 3 #[.slice A n c, .int .i64 y] w (SaysB w true) := by
  by_cases h40 : 40 < n
  · clear hA
    go_enter Try.func3, Try.ntmps3
    go_wp2_with fail
    refine (awake7_any _).mono ?_
    rintro e W1 ⟨rfl, hb⟩
    go_wp2_with fail
    go_ret
    exact ⟨rfl, hb⟩
  have HA := Lib.hid hA
  obtain ⟨m, b, HV⟩ := atV_form (atM y ms)
  obtain ⟨a, kd, by_, fl⟩ := m
  unfold mishV at HV
  dsimp only at HV
  have C1 := Lib.hid fun W => at7_any y A n c ms W hn
  have C2 := Lib.hid fun W => refat7_any y A n c ms W hn
  rw [HV] at C1 C2
  have HML : (afterM y ms).length ≤ n := by have := afterM_len y ms; rw [hA.len] at this; exact this
  obtain ⟨q, HQ⟩ : ∃ q, Hid (mayM ms = q) := ⟨_, rfl⟩
  have C3 := Lib.hid fun W => may7_any A n c ms W hn
  have C4 := Lib.hid fun W => refmay7_any A n c ms W hn
  rw [HQ.out] at C3 C4
  obtain ⟨d, HD⟩ : ∃ d : Int, Hid (((darksM ms : Nat) : Int) = d) := ⟨_, rfl⟩
  have C5 := Lib.hid fun W => darks7_any A n c ms W (by omega)
  have C6 := Lib.hid fun W => refdarks7_any A n c ms W (by omega)
  rw [HD.out] at C5 C6
  obtain ⟨us, HU⟩ : ∃ us, Hid (afterM y ms = us) := ⟨_, rfl⟩
  have C7 := Lib.hid fun W => after7_any y A n c ms W (by omega)
  have C8 := Lib.hid fun W => refafter7_any y A n c ms W (by omega)
  rw [HU.out] at C7 C8 HML
  have bb : (b == b) = true := by simp
  have bq : (q == q) = true := by simp
  have bd : (d == d) = true := by simp
  clear hA HV
  go_enter Try.func3, Try.ntmps3
  go_wp2_with fail
  refine (C1.out _ HA.out).mono ?_
  rintro e W1 ⟨rfl, hb1⟩
  have S1 := Lib.hid hb1.out
  have S2 := Lib.hid (since_alloc S1.out (.cells #[.int .i64 a, .int .i64 kd, .int .i64 by_, .int .u8 fl] 25))
  have R2 : Hid (RowM (W1.alloc (.cells #[.int .i64 a, .int .i64 kd, .int .i64 by_, .int .u8 fl] 25)) W1.heap.size ⟨a, kd, by_, fl⟩) := rowM_new W1 ⟨a, kd, by_, fl⟩
  clear hb1 S1
  go_wp2_with fail
  refine (C2.out _ (HA.out.since S2.out)).mono ?_
  rintro e W3 ⟨rfl, hb3⟩
  have S3 := Lib.hid (below_chain S2.out hb3.out)
  have R3 := Lib.hid (R2.out.since hb3.out)
  obtain ⟨g, HG⟩ : ∃ g, Hid (g = W1.heap.size) := ⟨_, rfl⟩
  rw [← HG.out] at R3 ⊢
  have S4 := Lib.hid (since_alloc S3.out (.cells #[.int .i64 a, .int .i64 kd, .int .i64 by_, .int .u8 fl] 25))
  have R4 := Lib.hid (R3.out.since (later_alloc W3 (.cells #[.int .i64 a, .int .i64 kd, .int .i64 by_, .int .u8 fl] 25)))
  have T4 : Hid (RowM (W3.alloc (.cells #[.int .i64 a, .int .i64 kd, .int .i64 by_, .int .u8 fl] 25)) W3.heap.size ⟨a, kd, by_, fl⟩) := rowM_new W3 ⟨a, kd, by_, fl⟩
  clear hb3 S2 R2 S3 R3 HG
  go_wp2_with fail
  refine (C7.out _ (HA.out.since S4.out)).mono ?_
  rintro e W5 ⟨A5, n5, c5, rfl, O5, hb5⟩
  have S5 := Lib.hid (below_chain S4.out hb5.out)
  have R5 := Lib.hid (R4.out.since hb5.out)
  have T5 := Lib.hid (T4.out.since hb5.out)
  have O5 := Lib.hid (O5.out.elder S4.out.size)
  have hn5 : n5 ≤ 40 := by rw [← O5.out.len]; omega
  obtain ⟨d0, d1, d2, d3⟩ := R5.out.at_
  obtain ⟨e0, e1, e2, e3⟩ := T5.out.at_
  dsimp only at d0 d1 d2 d3 e0 e1 e2 e3
  clear hb5 S4 R4 T4
  go_wp2_with fail
  refine (C8.out _ (HA.out.since S5.out)).mono ?_
  rintro e W6 ⟨A6, n6, c6, rfl, O6, hb6⟩
  have S6 := Lib.hid (below_chain S5.out hb6.out)
  have P6 := Lib.hid (O5.out.since hb6.out)
  obtain rfl : n5 = n6 := P6.out.len.symm.trans O6.out.len
  clear d0 d1 d2 d3 e0 e1 e2 e3 hb6 S5 R5 T5 O5
  go_wp2_with fail
  refine (samemish_yes A5 A6 n5 c5 c6 us _ (by omega) P6.out.lie O6.out.lie).mono ?_
  rintro e W7 ⟨rfl, hb7⟩
  have S7 := Lib.hid (below_chain S6.out hb7.out)
  have P7 := Lib.hid (P6.out.since hb7.out)
  clear hb7 S6 P6 O6
  go_wp2_with fail
  refine (C3.out _ (HA.out.since S7.out)).mono ?_
  rintro e W8 ⟨rfl, hb8⟩
  have S8 := Lib.hid (below_chain S7.out hb8.out)
  have P8 := Lib.hid (P7.out.since hb8.out)
  clear hb8 S7 P7
  go_wp2_with fail
  refine (C4.out _ (HA.out.since S8.out)).mono ?_
  rintro e W9 ⟨rfl, hb9⟩
  have S9 := Lib.hid (below_chain S8.out hb9.out)
  have P9 := Lib.hid (P8.out.since hb9.out)
  clear hb9 S8 P8
  go_wp2_with fail
  refine (C5.out _ (HA.out.since S9.out)).mono ?_
  rintro e W10 ⟨rfl, hb10⟩
  have S10 := Lib.hid (below_chain S9.out hb10.out)
  have P10 := Lib.hid (P9.out.since hb10.out)
  clear hb10 S9 P9
  go_wp2_with fail
  refine (C6.out _ (HA.out.since S10.out)).mono ?_
  rintro e W11 ⟨rfl, hb11⟩
  have S11 := Lib.hid (below_chain S10.out hb11.out)
  have P11 := Lib.hid (P10.out.since hb11.out)
  clear hb11 S10 P10
  go_wp2_with fail
  refine (overmish_any A5 n5 c5 w.heap.size us _ (by omega) S11.out.size P11.out).mono ?_
  rintro e W12 ⟨rfl, hg12⟩
  have S12 : Hid (Below w.heap.size w W12) := S11.out.grown hg12 S11.out.size (fun b hb => (P11.out.row.lt b hb).1)
  clear hg12 S11 P11
  go_wp2_with fail
  refine (C7.out _ (HA.out.since S12.out)).mono ?_
  rintro e W13 ⟨A13, n13, c13, rfl, O13, hb13⟩
  have S13 := Lib.hid (below_chain S12.out hb13.out)
  have hn13 : n13 ≤ 40 := by rw [← O13.out.len]; omega
  clear hb13 S12
  go_wp2_with fail
  refine (C8.out _ (HA.out.since S13.out)).mono ?_
  rintro e W14 ⟨A14, n14, c14, rfl, O14, hb14⟩
  have S14 := Lib.hid (below_chain S13.out hb14.out)
  have P14 := Lib.hid (O13.out.since hb14.out)
  obtain rfl : n13 = n14 := P14.out.len.symm.trans O14.out.len
  clear hb14 S13 O13
  go_wp2_with fail
  refine (samemish_yes A13 A14 n13 c13 c14 us _ (by omega) P14.out.lie O14.out.lie).mono ?_
  rintro e W15 ⟨rfl, hb15⟩
  have S15 := Lib.hid (below_chain S14.out hb15.out)
  clear hb15 S14 P14 O14
  go_wp2_with fail
  refine (awake7_any _).mono ?_
  rintro e W16 ⟨rfl, hb16⟩
  have S16 := Lib.hid (below_chain S15.out hb16.out)
  go_wp2_with fail
  go_ret
  exact ⟨rfl, S16⟩
end Go.Proofs.Ytgonphcjkoobmaa
