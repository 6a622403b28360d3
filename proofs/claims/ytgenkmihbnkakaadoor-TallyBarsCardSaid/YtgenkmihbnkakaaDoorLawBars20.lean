/- TallyBars: true, whatever its arguments are. No conditions. -/
import Derived.Test.YtgenkmihbnkakaaDoorTalAwake
import Derived.Test.YtgenkmihbnkakaaDoorShared
set_option linter.unusedVariables false
set_option linter.unusedSimpArgs false
set_option maxRecDepth 20000
namespace Go.Proofs.YtgenkmihbnkakaaDoor
open Go Go.RowKit

theorem bar_scalar {n o c : Int} : ∀ r ∈ barR n o c, Scalar r := fun r h => by
  rcases bar_mem h with rfl | rfl <;> (unfold Scalar; decide)
set_option maxHeartbeats 8000000 in
set_option maxRecDepth 100000 in
theorem bars_law (xn xo xc : Int) (w : World) (HT0 : T10 w) :
    Calls Tryd.prog 5 #[.int .i64 xn, .int .i64 xo, .int .i64 xc] w (SaysB w true) := by
  have HT := Lib.hid HT0
  clear HT0
  have HL := Lib.hid (fun (x n : Int) (h1 : 1 ≤ n) (h2 : n ≤ 1000000) (W : World) => low_any x n h1 h2 W)
  have bn := lowM_bd xn 1000000 (by decide)
  obtain ⟨N, hN⟩ : ∃ z, lowM xn 1000000 = z := ⟨_, rfl⟩
  rw [hN] at bn
  obtain ⟨bn0, bn1⟩ := bn
  have Cn := Lib.hid (fun W => HL.out xn 1000000 (by decide) (by decide) W)
  simp only [hN] at Cn
  clear hN
  have bo := lowM_bd xo 1000000 (by decide)
  obtain ⟨E, hE⟩ : ∃ z, lowM xo 1000000 = z := ⟨_, rfl⟩
  rw [hE] at bo
  obtain ⟨bo0, bo1⟩ := bo
  have Co := Lib.hid (fun W => HL.out xo 1000000 (by decide) (by decide) W)
  simp only [hE] at Co
  clear hE
  have bc := lowM_bd xc 201 (by decide)
  obtain ⟨C, hC⟩ : ∃ z, lowM xc 201 = z := ⟨_, rfl⟩
  rw [hC] at bc
  obtain ⟨bc0, bc1⟩ := bc
  have Cc := Lib.hid (fun W => HL.out xc 201 (by decide) (by decide) W)
  simp only [hC] at Cc
  clear hC
  clear HL
  obtain ⟨m, rfl⟩ : ∃ m : Nat, C = (m : Int) := ⟨C.toNat, by omega⟩
  have HLEN : Hid ((barR N (1 + E) m).length = m) := by have := bar_len (n := N) (o := 1 + E) (c := (m : Int)) (by omega) (by omega); show _ = _; omega
  have HFB := full_bd (n := N) (o := 1 + E) (c := (m : Int)) (by omega)
  obtain ⟨f, hf⟩ : ∃ f : Nat, fullT N (1 + E) m = (f : Int) := ⟨(fullT N (1 + E) m).toNat, by omega⟩
  have HAT : Hid (∀ k : Nat, k < m → (barR N (1 + E) m).getD k 0 = if k < f then 9608 else 183) := fun k hk => by
    have := bar_at (n := N) (o := 1 + E) (c := (m : Int)) (by omega) (by omega) (k := k) (by omega)
    rw [this, hf]
    by_cases h : k < f
    · rw [if_pos h, if_pos (by omega)]
    · rw [if_neg h, if_neg (by omega)]
  rw [hf] at HFB
  have hfm : f ≤ m := by omega
  have HPB := pct_bd N (1 + E)
  have HPH := pct_hundred (n := N) (o := 1 + E) bn0 (by omega)
  have HALL : 1 + E ≤ N → pctT N (1 + E) = 100 := fun h => pct_all (by omega) h
  have HSOME : N < 1 + E → pctT N (1 + E) = 100 * N / (1 + E) ∧ pctT N (1 + E) < 100 := fun h => ⟨pct_some bn0 h, pct_lt bn0 h⟩
  obtain ⟨P, HP⟩ : ∃ P, pctT N (1 + E) = P := ⟨_, rfl⟩
  have HFZ : (f : Int) = (m : Int) * P / 100 := by rw [← hf, ← HP]; rfl
  rw [HP] at HPB HPH HALL HSOME
  obtain ⟨hp0, hp1⟩ := HPB
  have HPH2 := Lib.hid HPH
  have HP2 := Lib.hid HP
  have HCOL : Hid (colsR (barR N (1 + E) m) = m) := bar_cols (by omega) (by omega)
  obtain ⟨z, hz⟩ : ∃ z, (m : Int) * P = z := ⟨_, rfl⟩
  have z0 : 0 ≤ z := by rw [← hz]; exact Int.mul_nonneg (by omega) hp0
  have z1 : z ≤ 20000 := by rw [← hz]; have := Int.mul_le_mul (show (m : Int) ≤ 200 by omega) hp1 hp0 (by decide); omega
  rw [hz] at HFZ
  have HFZ2 : Hid (z / 100 = (f : Int)) := HFZ.symm
  clear HFZ
  have HZ := Lib.hid hz
  clear hz
  obtain ⟨rs, HRS⟩ : ∃ rs, Hid (barR N (1 + E) m = rs) := ⟨_, rfl⟩
  have HRB := Lib.hid (runes_bar N (1 + E) m)
  have HSCA := Lib.hid (bar_scalar (n := N) (o := 1 + E) (c := (m : Int)))
  rw [HRS.out] at HLEN HAT HRB HCOL HSCA
  have HALL2 := Lib.hid HALL
  have HSOME2 := Lib.hid HSOME
  clear hf HP HPH HALL HSOME
  go_enter Tryd.func5, Tryd.ntmps5
  go_wp2_with fail
  refine (Cn.out _).mono ?_
  rintro e w1 ⟨rfl, rfl⟩
  go_wp2_with fail
  refine (Co.out _).mono ?_
  rintro e w1 ⟨rfl, rfl⟩
  go_wp2_with fail
  refine (Cc.out _).mono ?_
  rintro e w1 ⟨rfl, rfl⟩
  go_wp2_with fail
  refine (tbar_any N (1 + E) m (by omega) (by omega) (by omega) (by omega) (by omega) (by omega) _).mono ?_
  rintro e W1 ⟨B, rfl, hB, hb1⟩
  have hBz : B.size ≤ 1000000 := by rw [ba_size, hB.out]; exact Nat.le_trans bar_size (by decide)
  obtain ⟨cap, W2, hcv, hcap, hb2, hz2, hcell, _, _⟩ := conv_runes B hBz W1
  obtain ⟨g, HG⟩ : ∃ g, Hid (W1.heap.size = g) := ⟨_, rfl⟩
  rw [hB.out, HRS.out, HRB.out, HLEN.out, HG.out] at hcv
  rw [hB.out, HRS.out, HRB.out, HLEN.out] at hcap
  rw [hB.out, HRS.out, HRB.out, HLEN.out, HG.out] at hcell
  have S2 := Lib.hid (bch hb1 hb2)
  have HGL : Hid (g < W2.heap.size) := by show _ < _; rw [hz2, HG.out]; exact Nat.lt_succ_self _
  have HCELL : Hid (∀ j, j < m → W2.cell? ⟨g, j, none⟩ = some (.int .i32 (if j < f then 9608 else 183))) := fun j hj => by rw [hcell j hj, HAT.out j hj]
  clear hb1 hb2 hz2 hcell hB hBz HG
  go_wp2_with fail
  clear hcv
  go_loop [8] (fun t8 => ∃ k : Nat, t8 = .int .i64 k ∧ k ≤ f) (fun t8 => f - (intOf t8).toNat)
  case atStart => exact ⟨0, rfl, Nat.zero_le _⟩
  case round =>
    obtain ⟨k, rfl, hk⟩ := hrel
    by_cases hlt : k < f
    · have hck := HCELL.out k (by omega)
      rw [if_pos hlt] at hck
      have i1 : (k : Int) < (m : Int) := by omega
      go_wp2_with fail
      go_round
      case rel => exact ⟨k + 1, by go_num, by omega⟩
      case measure => simp [intOf]; omega
    · obtain rfl : k = f := by omega
      have KEY : Hid (∀ W8 : World, Hid (Below w.heap.size w W8) → True) := fun _ _ => trivial
      have hck : k < m → W2.cell? ⟨g, k, none⟩ = some (.int .i32 183) := fun h => by have := HCELL.out k h; rwa [if_neg hlt] at this
      by_cases hkm : k < m
      · have hc2 := hck hkm
        have i1 : (k : Int) < (m : Int) := by omega
        clear hck
        go_wp2_with fail
        clear hc2
        go_loop [9] (fun t9 => ∃ i : Nat, t9 = .int .i64 i ∧ k ≤ i ∧ i ≤ m) (fun t9 => m - (intOf t9).toNat)
        case atStart => exact ⟨k, rfl, Nat.le_refl _, hfm⟩
        case round =>
          obtain ⟨i, rfl, hki, him⟩ := hrel
          by_cases hlt2 : i < m
          · have hck := HCELL.out i hlt2
            rw [if_neg (by omega)] at hck
            have i2 : (i : Int) < (m : Int) := by omega
            go_wp2_with fail
            go_round
            case rel => exact ⟨i + 1, by go_num, by omega, by omega⟩
            case measure => simp [intOf]; omega
          · obtain rfl : i = m := by omega
            go_wp2_with fail
            refine (tpct_any N (1 + E) (by omega) (by omega) (by omega) (by omega) _).mono ?_
            rintro e W3 ⟨rfl, hb3⟩
            rw [HP2.out]
            have S3 := Lib.hid (bch S2.out hb3)
            have hgl := HGL.out
            have HC3 : Hid (∀ j, j < i → W3.cell? ⟨g, j, none⟩ = some (.int .i32 (rs.getD j 0))) := fun j hj => by rw [hb3.cell hgl, HCELL.out j hj, HAT.out j hj]
            have HG3 : Hid (g < W3.heap.size) := Nat.lt_of_lt_of_le hgl hb3.size
            clear hb3 hgl S2
            have hfz := HFZ2.out
            have hz := HZ.out
            have TAIL : ∀ (b1 : Bool), True := fun _ => trivial
            have HX1 : Hid (-9223372036854775808 ≤ 100 * N ∧ 100 * N ≤ 9223372036854775807 ∧ -9223372036854775808 ≤ 100 * (1 + E) ∧ 100 * (1 + E) ≤ 9223372036854775807) := ⟨by omega, by omega, by omega, by omega⟩
            by_cases hge : 1 + E ≤ N
            · have hp := HALL2.out hge
              subst hp
              exfalso
              omega
            · have hp := HSOME2.out (by omega)
              obtain ⟨hpe, hpl⟩ := hp
              have hdiv : (100 * N).tdiv (1 + E) = P := by rw [Int.tdiv_eq_ediv_of_nonneg (by omega)]; exact hpe.symm
              have hpe2 : 100 * N / (1 + E) = P := hpe.symm
              have hpb : (P == 100) = false := by rw [beq_eq_false_iff_ne]; omega
              have hlt3 : N < 1 + E := by omega
              clear hpe
              go_wp2_with (simp only [hz, hfz, hdiv, hpe2])
              refine (tpct_any (100 * N) (100 * (1 + E)) (by omega) (by omega) (by omega) (by omega) _).mono ?_
              rintro e W4 ⟨rfl, hb4⟩
              rw [HPH2.out]
              have S4 := Lib.hid (bch S3.out hb4)
              have hgl := HG3.out
              have hcells := fun j hj => (hb4.cell hgl (p := ⟨g, j, none⟩)).trans (HC3.out j hj)
              have htx := conv_text W4 g 0 i cap rs HLEN.out (fun j hj => by rw [Nat.zero_add]; exact hcells j hj) (runesBytes rs) rfl
              obtain ⟨S, hSS⟩ : ∃ S, Hid (runesBytes rs = S) := ⟨_, rfl⟩
              have hSL : Hid (S.data.toList = enc rs) := by show _ = _; rw [← hSS.out]; exact runesBytes_enc rs HSCA.out
              have hSz : Hid (S.size ≤ 1000000) := by show _ ≤ _; rw [ba_size, hSL.out, ← HRS.out]; exact Nat.le_trans bar_size (by decide)
              rw [hSS.out] at htx
              clear hcells hb4 hgl
              go_wp2_with fail
              clear htx
              have HC := Lib.hid (tcols_any S hSz.out W4)
              rw [hSL.out, HRB.out, HCOL.out] at HC
              refine HC.out.mono ?_
              rintro e W5 ⟨rfl, hb5⟩
              have S5 := Lib.hid (bch S4.out hb5)
              clear hb5 HC
              go_wp2_with fail
              refine (talawake_any _ (HT.out.since S5.out)).mono ?_
              rintro e W6 ⟨rfl, hb6⟩
              have S6 := Lib.hid (bch S5.out hb6)
              go_wp2_with fail
              go_ret
              exact ⟨rfl, S6.out⟩
      · obtain rfl : k = m := by omega
        clear hck
        go_wp2_with fail
        go_loop [9] (fun t9 => t9 = .int .i64 k) (fun t9 => 0)
        case atStart => rfl
        case round =>
          subst hrel
          go_wp2_with fail
          refine (tpct_any N (1 + E) (by omega) (by omega) (by omega) (by omega) _).mono ?_
          rintro e W3 ⟨rfl, hb3⟩
          rw [HP2.out]
          have S3 := Lib.hid (bch S2.out hb3)
          have hgl := HGL.out
          have HC3 : Hid (∀ j, j < k → W3.cell? ⟨g, j, none⟩ = some (.int .i32 (rs.getD j 0))) := fun j hj => by rw [hb3.cell hgl, HCELL.out j hj, HAT.out j hj]
          have HG3 : Hid (g < W3.heap.size) := Nat.lt_of_lt_of_le hgl hb3.size
          clear hb3 hgl S2
          have hfz := HFZ2.out
          have hz := HZ.out
          have TAIL : ∀ (b1 : Bool), True := fun _ => trivial
          have HX1 : Hid (-9223372036854775808 ≤ 100 * N ∧ 100 * N ≤ 9223372036854775807 ∧ -9223372036854775808 ≤ 100 * (1 + E) ∧ 100 * (1 + E) ≤ 9223372036854775807) := ⟨by omega, by omega, by omega, by omega⟩
          by_cases hge : 1 + E ≤ N
          · have hp := HALL2.out hge
            subst hp
            go_wp2_with (simp only [hz, hfz])
            refine (tpct_any (100 * N) (100 * (1 + E)) (by omega) (by omega) (by omega) (by omega) _).mono ?_
            rintro e W4 ⟨rfl, hb4⟩
            rw [HPH2.out]
            have S4 := Lib.hid (bch S3.out hb4)
            have hgl := HG3.out
            have hcells := fun j hj => (hb4.cell hgl (p := ⟨g, j, none⟩)).trans (HC3.out j hj)
            have htx := conv_text W4 g 0 k cap rs HLEN.out (fun j hj => by rw [Nat.zero_add]; exact hcells j hj) (runesBytes rs) rfl
            obtain ⟨S, hSS⟩ : ∃ S, Hid (runesBytes rs = S) := ⟨_, rfl⟩
            have hSL : Hid (S.data.toList = enc rs) := by show _ = _; rw [← hSS.out]; exact runesBytes_enc rs HSCA.out
            have hSz : Hid (S.size ≤ 1000000) := by show _ ≤ _; rw [ba_size, hSL.out, ← HRS.out]; exact Nat.le_trans bar_size (by decide)
            rw [hSS.out] at htx
            clear hcells hb4 hgl
            go_wp2_with fail
            clear htx
            have HC := Lib.hid (tcols_any S hSz.out W4)
            rw [hSL.out, HRB.out, HCOL.out] at HC
            refine HC.out.mono ?_
            rintro e W5 ⟨rfl, hb5⟩
            have S5 := Lib.hid (bch S4.out hb5)
            clear hb5 HC
            go_wp2_with fail
            refine (talawake_any _ (HT.out.since S5.out)).mono ?_
            rintro e W6 ⟨rfl, hb6⟩
            have S6 := Lib.hid (bch S5.out hb6)
            go_wp2_with fail
            go_ret
            exact ⟨rfl, S6.out⟩
          · have hp := HSOME2.out (by omega)
            obtain ⟨hpe, hpl⟩ := hp
            have hdiv : (100 * N).tdiv (1 + E) = P := by rw [Int.tdiv_eq_ediv_of_nonneg (by omega)]; exact hpe.symm
            have hpe2 : 100 * N / (1 + E) = P := hpe.symm
            have hpb : (P == 100) = false := by rw [beq_eq_false_iff_ne]; omega
            have hlt3 : N < 1 + E := by omega
            clear hpe
            go_wp2_with (simp only [hz, hfz, hdiv, hpe2])
            refine (tpct_any (100 * N) (100 * (1 + E)) (by omega) (by omega) (by omega) (by omega) _).mono ?_
            rintro e W4 ⟨rfl, hb4⟩
            rw [HPH2.out]
            have S4 := Lib.hid (bch S3.out hb4)
            have hgl := HG3.out
            have hcells := fun j hj => (hb4.cell hgl (p := ⟨g, j, none⟩)).trans (HC3.out j hj)
            have htx := conv_text W4 g 0 k cap rs HLEN.out (fun j hj => by rw [Nat.zero_add]; exact hcells j hj) (runesBytes rs) rfl
            obtain ⟨S, hSS⟩ : ∃ S, Hid (runesBytes rs = S) := ⟨_, rfl⟩
            have hSL : Hid (S.data.toList = enc rs) := by show _ = _; rw [← hSS.out]; exact runesBytes_enc rs HSCA.out
            have hSz : Hid (S.size ≤ 1000000) := by show _ ≤ _; rw [ba_size, hSL.out, ← HRS.out]; exact Nat.le_trans bar_size (by decide)
            rw [hSS.out] at htx
            clear hcells hb4 hgl
            go_wp2_with fail
            clear htx
            have HC := Lib.hid (tcols_any S hSz.out W4)
            rw [hSL.out, HRB.out, HCOL.out] at HC
            refine HC.out.mono ?_
            rintro e W5 ⟨rfl, hb5⟩
            have S5 := Lib.hid (bch S4.out hb5)
            clear hb5 HC
            go_wp2_with fail
            refine (talawake_any _ (HT.out.since S5.out)).mono ?_
            rintro e W6 ⟨rfl, hb6⟩
            have S6 := Lib.hid (bch S5.out hb6)
            go_wp2_with fail
            go_ret
            exact ⟨rfl, S6.out⟩
end Go.Proofs.YtgenkmihbnkakaaDoor
