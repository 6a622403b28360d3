/- TallyLines: true, whatever its arguments are. No conditions. -/
import Derived.Test.YtgenkmihbnkakaaDoorTalAwake
import Derived.Test.YtgenkmihbnkakaaDoorShared
set_option linter.unusedVariables false
set_option linter.unusedSimpArgs false
set_option maxRecDepth 20000
namespace Go.Proofs.YtgenkmihbnkakaaDoor
open Go Go.RowKit

def namesV : Array Value := #[.string ⟨#[115, 104, 101, 108, 102]⟩, .string ⟨#[230, 151, 165, 230, 156, 172, 232, 170, 158]⟩, .string ⟨#[195, 132, 114, 103, 101, 114, 95, 57]⟩, .string ⟨#[120]⟩, .string ⟨#[206, 177, 206, 178, 206, 179, 206, 180, 206, 181, 206, 182, 206, 183, 206, 184, 206, 185, 206, 186, 206, 187, 206, 188]⟩]
theorem name_at (q : Nat) (hq : q < 5) : ∃ N : ByteArray, namesV[q]? = some (.string N) ∧ mayL N.data.toList = true ∧ N.size ≤ 100 := by
  match q, hq with
  | 0, _ => exact ⟨_, rfl, by decide +kernel, by decide⟩
  | 1, _ => exact ⟨_, rfl, by decide +kernel, by decide⟩
  | 2, _ => exact ⟨_, rfl, by decide +kernel, by decide⟩
  | 3, _ => exact ⟨_, rfl, by decide +kernel, by decide⟩
  | 4, _ => exact ⟨_, rfl, by decide +kernel, by decide⟩
set_option maxHeartbeats 8000000 in
set_option maxRecDepth 100000 in
theorem lines_law (xw xd xm xc xl xk : Int) (w : World) (HT0 : T10 w) :
    Calls Tryd.prog 4 #[.int .i64 xw, .int .i64 xd, .int .i64 xm, .int .i64 xc, .int .i64 xl, .int .i64 xk] w (SaysB w true) := by
  have HT := Lib.hid HT0
  clear HT0
  have HL := Lib.hid (fun (x n : Int) (h1 : 1 ≤ n) (h2 : n ≤ 1000000) (W : World) => low_any x n h1 h2 W)
  obtain ⟨W0, HW0⟩ : ∃ W, Hid (w.alloc (.cells namesV 9) = W) := ⟨_, rfl⟩
  obtain ⟨g, HG⟩ : ∃ g, Hid (w.heap.size = g) := ⟨_, rfl⟩
  have S0 : Hid (Below w.heap.size w W0) := by show Below _ _ _; rw [← HW0.out]; exact (Below.refl _ _).alloc (Nat.le_refl _) _
  have HQ := lowM_bd xw 5 (by decide)
  obtain ⟨q, hq⟩ : ∃ q : Nat, lowM xw 5 = (q : Int) := ⟨(lowM xw 5).toNat, by omega⟩
  have hq5 : q < 5 := by omega
  obtain ⟨N, hN, hmay, hsz⟩ := name_at q hq5
  have hcell : W0.cell? ⟨g, q, none⟩ = some (.string N) := by
    rw [← HW0.out, ← HG.out, cell_of_row _ _ q _ _ _ (heap_alloc_new w _)]
    exact hN
  have HM : Hid (mayL N.data.toList = true) := hmay
  have HS : Hid (N.size ≤ 1000000) := Nat.le_trans hsz (by decide)
  have CQ := Lib.hid (HL.out xw 5 (by decide) (by decide) W0)
  rw [hq] at CQ
  have bd := lowM_bd xd 10000 (by decide)
  obtain ⟨D, hD⟩ : ∃ z, lowM xd 10000 = z := ⟨_, rfl⟩
  rw [hD] at bd
  obtain ⟨bd0, bd1⟩ := bd
  have Cd := Lib.hid (fun W => HL.out xd 10000 (by decide) (by decide) W)
  simp only [hD] at Cd
  clear hD
  have bc := lowM_bd xc 10000 (by decide)
  obtain ⟨C, hC⟩ : ∃ z, lowM xc 10000 = z := ⟨_, rfl⟩
  rw [hC] at bc
  obtain ⟨bc0, bc1⟩ := bc
  have Cc := Lib.hid (fun W => HL.out xc 10000 (by decide) (by decide) W)
  simp only [hC] at Cc
  clear hC
  have bl := lowM_bd xl 10000 (by decide)
  obtain ⟨E, hE⟩ : ∃ z, lowM xl 10000 = z := ⟨_, rfl⟩
  rw [hE] at bl
  obtain ⟨bl0, bl1⟩ := bl
  have Cl := Lib.hid (fun W => HL.out xl 10000 (by decide) (by decide) W)
  simp only [hE] at Cl
  clear hE
  have bk := lowM_bd xk 171 (by decide)
  obtain ⟨K, hK⟩ : ∃ z, lowM xk 171 = z := ⟨_, rfl⟩
  rw [hK] at bk
  obtain ⟨bk0, bk1⟩ := bk
  have Ck := Lib.hid (fun W => HL.out xk 171 (by decide) (by decide) W)
  simp only [hK] at Ck
  clear hK
  have bm := lowM_bd xm 100 (by decide)
  obtain ⟨M, hM⟩ : ∃ z, lowM xm 100 = z := ⟨_, rfl⟩
  rw [hM] at bm
  obtain ⟨bm0, bm1⟩ := bm
  have Cm := Lib.hid (fun W => HL.out xm 100 (by decide) (by decide) W)
  simp only [hM] at Cm
  clear hM
  clear hN hmay hsz HQ hq HL
  have HOK : Hid (okT N.data.toList D C (1 + E) (30 + K) = true) := by
    show _ = _
    unfold okT fineT
    rw [HM.out, Bool.true_and]
    exact decide_eq_true (by omega)
  have HP := Lib.hid (pct_mono (n := D) (m := D + M) (o := 1 + E) bd0 (by omega) (by omega))
  have HF : Hid (fullT D (1 + E) (30 + K) ≤ fullT (D + M) (1 + E) (30 + K)) := full_mono (by omega) HP.out
  have HA : Hid (fullT (1 + E) (1 + E) (30 + K) = 30 + K) := full_all (pct_all (by omega) (Int.le_refl _))
  have HZ : Hid (fullT 0 (1 + E) (30 + K) = 0) := full_none (pct_zero (by omega))
  have HB0 := Lib.hid (full_bd (n := D) (o := 1 + E) (c := 30 + K) (by omega))
  have HB1 := Lib.hid (full_bd (n := D + M) (o := 1 + E) (c := 30 + K) (by omega))
  have HCNT : Hid (∀ n, ((barR n (1 + E) (30 + K)).count 9608 : Int) = fullT n (1 + E) (30 + K)) := fun n => bar_count (by omega) (by omega)
  have qc : (q : Int) < 5 := by omega
  go_enter Tryd.func4, Tryd.ntmps4
  go_wp2_with fail
  have e0 := HW0.out
  unfold namesV at e0
  rw [e0, HG.out]
  clear e0
  refine CQ.out.mono ?_
  rintro e w1 ⟨rfl, rfl⟩
  go_wp2_with fail
  refine (Cd.out _).mono ?_
  rintro e w1 ⟨rfl, rfl⟩
  go_wp2_with fail
  refine (Cc.out _).mono ?_
  rintro e w1 ⟨rfl, rfl⟩
  go_wp2_with fail
  refine (Cl.out _).mono ?_
  rintro e w1 ⟨rfl, rfl⟩
  go_wp2_with fail
  refine (Ck.out _).mono ?_
  rintro e w1 ⟨rfl, rfl⟩
  go_wp2_with fail
  refine (Cm.out _).mono ?_
  rintro e w1 ⟨rfl, rfl⟩
  go_wp2_with fail
  refine (tline_any N D C (1 + E) (30 + K) HS.out (by omega) (by omega) (by omega) (by omega) (by omega) (by omega) (by omega) (by omega) _ (HT.out.since S0.out)).mono ?_
  rintro e W2 ⟨S, rfl, hS, hb⟩
  have S2 := Lib.hid (bch S0.out hb)
  have hSz : Hid (S.size ≤ 1000000) := by show _ ≤ _; rw [ba_size, hS.out]; exact Nat.le_trans line_size (by decide)
  have HSC : Hid (colsR (runes S.data.toList) = 30 + K) := by show _ = _; rw [hS.out, runes_line HOK.out, line_cols (by unfold fineT; omega) (by omega) (by omega)]
  clear hb hS S0
  go_wp2_with fail
  refine (tbar_any D (1 + E) (30 + K) (by omega) (by omega) (by omega) (by omega) (by omega) (by omega) _).mono ?_
  rintro e W3 ⟨B, rfl, hB, hb⟩
  have S3 := Lib.hid (bch S2.out hb)
  have hBz : B.size ≤ 1000000 := by rw [ba_size, hB.out]; exact Nat.le_trans bar_size (by decide)
  have HC := Lib.hid (full_any B hBz W3)
  rw [hB.out, runes_bar, HCNT.out] at HC
  clear hb hB hBz
  go_wp2_with fail
  refine HC.out.mono ?_
  rintro e W4 ⟨rfl, hb⟩
  have S4 := Lib.hid (bch S3.out hb)
  clear hb HC
  obtain ⟨a, ha⟩ : ∃ a, fullT D (1 + E) (30 + K) = a := ⟨_, rfl⟩
  rw [ha] at HF HB0
  rw [ha]
  go_wp2_with fail
  refine (tbar_any (D + M) (1 + E) (30 + K) (by omega) (by omega) (by omega) (by omega) (by omega) (by omega) _).mono ?_
  rintro e W5 ⟨B, rfl, hB, hb⟩
  have S5 := Lib.hid (bch S4.out hb)
  have hBz : B.size ≤ 1000000 := by rw [ba_size, hB.out]; exact Nat.le_trans bar_size (by decide)
  have HC := Lib.hid (full_any B hBz W5)
  rw [hB.out, runes_bar, HCNT.out] at HC
  clear hb hB hBz
  go_wp2_with fail
  refine HC.out.mono ?_
  rintro e W6 ⟨rfl, hb⟩
  have S6 := Lib.hid (bch S5.out hb)
  clear hb HC
  obtain ⟨b, hb⟩ : ∃ b, fullT (D + M) (1 + E) (30 + K) = b := ⟨_, rfl⟩
  rw [hb] at HF HB1
  rw [hb]
  have hab := HF.out
  obtain ⟨ha0, ha1⟩ := HB0.out
  obtain ⟨hb0, hb1⟩ := HB1.out
  go_wp2_with fail
  have HC := Lib.hid (tcols_any S hSz.out W6)
  rw [HSC.out] at HC
  refine HC.out.mono ?_
  rintro e W7 ⟨rfl, hbb⟩
  have S7 := Lib.hid (bch S6.out hbb)
  clear hbb HC
  go_wp2_with fail
  refine (tbar_any (1 + E) (1 + E) (30 + K) (by omega) (by omega) (by omega) (by omega) (by omega) (by omega) _).mono ?_
  rintro e W8 ⟨B, rfl, hB, hb⟩
  have S8 := Lib.hid (bch S7.out hb)
  have hBz : B.size ≤ 1000000 := by rw [ba_size, hB.out]; exact Nat.le_trans bar_size (by decide)
  have HC := Lib.hid (full_any B hBz W8)
  rw [hB.out, runes_bar, HCNT.out, HA.out] at HC
  clear hb hB hBz
  go_wp2_with fail
  refine HC.out.mono ?_
  rintro e W9 ⟨rfl, hb⟩
  have S9 := Lib.hid (bch S8.out hb)
  clear hb HC
  go_wp2_with fail
  refine (tbar_any 0 (1 + E) (30 + K) (by omega) (by omega) (by omega) (by omega) (by omega) (by omega) _).mono ?_
  rintro e W10 ⟨B, rfl, hB, hb⟩
  have S10 := Lib.hid (bch S9.out hb)
  have hBz : B.size ≤ 1000000 := by rw [ba_size, hB.out]; exact Nat.le_trans bar_size (by decide)
  have HC := Lib.hid (full_any B hBz W10)
  rw [hB.out, runes_bar, HCNT.out, HZ.out] at HC
  clear hb hB hBz
  go_wp2_with fail
  refine HC.out.mono ?_
  rintro e W11 ⟨rfl, hb⟩
  have S11 := Lib.hid (bch S10.out hb)
  clear hb HC
  go_wp2_with fail
  refine (tpct_any D (1 + E) (by omega) (by omega) (by omega) (by omega) _).mono ?_
  rintro e W12 ⟨rfl, hbb⟩
  have S12 := Lib.hid (bch S11.out hbb)
  clear hbb
  go_wp2_with fail
  refine (tpct_any (D + M) (1 + E) (by omega) (by omega) (by omega) (by omega) _).mono ?_
  rintro e W13 ⟨rfl, hbb⟩
  have S13 := Lib.hid (bch S12.out hbb)
  clear hbb
  have hp := HP.out
  go_wp2_with fail
  refine (talawake_any _ (HT.out.since S13.out)).mono ?_
  rintro e W14 ⟨rfl, hbb⟩
  have S14 := Lib.hid (bch S13.out hbb)
  go_wp2_with fail
  go_ret
  exact ⟨rfl, S14.out⟩
end Go.Proofs.YtgenkmihbnkakaaDoor
