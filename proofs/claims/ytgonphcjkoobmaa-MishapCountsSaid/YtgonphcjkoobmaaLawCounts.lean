/- MishapCounts answers true, for all gaps, kinds and numbers. Conditions: the gaps' cells. -/
import Derived.Test.YtgonphcjkoobmaaCountsMath
set_option linter.unusedVariables false
set_option linter.unusedSimpArgs false
namespace Go.Proofs.Ytgonphcjkoobmaa
open Go.RowKit

set_option maxHeartbeats 16000000 in
set_option maxRecDepth 20000 in
theorem counts_law (A : Option Addr) (n c : Nat) (gs : List Int) (x y : Int) (w : World) (hn : n ≤ 9223372036854775807) (hx0 : -9223372036854775808 ≤ x) (hx1 : x ≤ 9223372036854775807) (hA : intK.Lie w w.heap.size A n gs) :
    Calls Try.prog 5 #[.slice A n c, .int .i64 x, .int .i64 y] w (SaysB w true) := by
  by_cases h20 : 20 < n
  · clear hA
    go_enter Try.func5, Try.ntmps5
    go_wp2_with fail
    refine (awake7_any _).mono ?_
    rintro e W1 ⟨rfl, hb⟩
    go_wp2_with fail
    go_ret
    exact ⟨rfl, hb⟩
  have hn20 : n ≤ 20 := by omega
  have HA := Lib.hid hA
  obtain ⟨z, HZ⟩ : ∃ z, Hid (lowM y 300 = z) := ⟨_, rfl⟩
  have hzb := lowM_bd y 300 (by omega)
  rw [HZ.out] at hzb
  obtain ⟨hz0, hz1⟩ := hzb
  clear hA h20
  go_enter Try.func5, Try.ntmps5
  go_wp2_with fail
  refine (low_any y 300 (by omega) (by omega) _).mono ?_
  rw [HZ.out]
  rintro e w' ⟨rfl, rfl⟩
  go_wp2_with fail
  go_loopw [7, 8, 9, 10, 11] (fun t7 t8 t9 t10 t11 wr => ∃ (i up dk c7 : Nat) (a : Int) (A7 : Option Addr) (us : List M), t11 = .int .i64 i ∧ i ≤ n ∧ t7 = .slice A7 i c7 ∧ t8 = .int .i64 a ∧ 0 ≤ a ∧ a ≤ 400 ∧ t9 = .int .i64 up ∧ up ≤ i ∧ t10 = .int .i64 dk ∧ dk ≤ i ∧ Hid (CInv z us a up dk) ∧ Hid (mishK.Row wr w.heap.size A7 i c7 us) ∧ Hid (Below w.heap.size w wr)) (fun _ _ _ _ t11 _ => n - (intOf t11).toNat)
  case atStart => exact ⟨0, 0, 0, 0, 0, none, [], rfl, Nat.zero_le _, rfl, rfl, by omega, by omega, rfl, Nat.le_refl _, rfl, Nat.le_refl _, cinv_start z, Kind.Row.none_, Below.refl _ _⟩
  case round =>
    obtain ⟨i, up, dk, c7, a, A7, us, rfl, hi, rfl, rfl, ha0, ha1, rfl, hup, rfl, hdk, HI, HR, HB⟩ := hrel
    by_cases hlt : i < n
    · obtain ⟨ad, e1, hblk, e3⟩ := (HA.out.since HB.out).each i hlt
      subst e1
      have c0 := intAt_of (show intK.At wr (ad.add (i * 1)) (gs.getD i 0) from e3)
      obtain ⟨gp, HGP⟩ : ∃ gp, Hid (gs.getD i 0 = gp) := ⟨_, rfl⟩
      rw [HGP.out, Nat.mul_one] at c0
      have i0 : (0 : Int) ≤ (i : Int) := by omega
      have i1 : (i : Int) < (n : Int) := by omega
      obtain ⟨g, HG⟩ : ∃ g, Hid (lowM gp 20 = g) := ⟨_, rfl⟩
      have hgb := lowM_bd gp 20 (by omega)
      rw [HG.out] at hgb
      obtain ⟨hg0, hg1⟩ := hgb
      obtain ⟨β, HBT⟩ : ∃ β : Int, Hid (bits .and .i64 (x / 2 ^ i) 1 = β) := ⟨_, rfl⟩
      have hβ : β = 0 ∨ β = 1 := by
        rw [← HBT.out, i64_and1]
        omega
      have HBE := Lib.hid hβ
      have hβ0 : 0 ≤ β := by omega
      have hβ1 : β ≤ 1 := by omega
      have HST := Lib.hid (HI.out.step (g := g) (β := β) (by rw [HR.out.len]; omega) (by omega) (by omega) hβ)
      have hlen : us.length = i := HR.out.len
      have ha2 : a + 1 + g ≤ 400 := by
        have := HST.out.high
        rw [List.length_append, List.length_singleton, hlen] at this
        omega
      obtain ⟨β', hββ⟩ : ∃ b : Nat, β = (b : Int) := ⟨β.toNat, by omega⟩
      have HD2 : Hid ((dk : Int) + β = ((dk + β.toNat : Nat) : Int)) := by show _ = _; omega
      have hdk2 : dk + β.toNat ≤ i + 1 := by omega
      have S1 := Lib.hid (below_chain HB.out (later_alloc wr (.cells #[.int .i64 (a + 1 + g), .int .i64 (1 + β), .int .i64 0, .int .u8 0] 25)))
      have Q1 := Lib.hid (HR.out.since (later_alloc wr (.cells #[.int .i64 (a + 1 + g), .int .i64 (1 + β), .int .i64 0, .int .u8 0] 25)))
      obtain ⟨A9, c9, W9, hr9, ho9, hg9⟩ := Kind.append_one_b (K := mishK) S1.out.size Q1.out (⟨a + 1 + g, 1 + β, 0, 0⟩ : M) (wf_of (by omega) (by omega) (by omega) (by omega) (by omega) (by omega) (by omega) (by omega)) #[.int .i64 (a + 1 + g), .int .i64 (1 + β), .int .i64 0, .int .u8 0] rfl (by omega)
      rw [show (wr.alloc (.cells #[.int .i64 (a + 1 + g), .int .i64 (1 + β), .int .i64 0, .int .u8 0] 25)).heap.size = wr.heap.size + 1 by simp] at hr9
      have R9 := Lib.hid hr9
      have Q9 := Lib.hid ho9
      have S9 : Hid (Below w.heap.size w W9) := S1.out.grown hg9 S1.out.size (fun b hb => (Q1.out.row.lt b hb).1)
      clear e3 hβ hββ hlen hr9 ho9 hg9
      by_cases hz : a + 1 + g ≤ z
      · rw [if_pos hz] at HST
        go_wp2_with fail
        refine (low_any gp 20 (by omega) (by omega) _).mono ?_
        rw [HG.out]
        rintro e w' ⟨rfl, rfl⟩
        go_wp2_with (first | (simp only [HBT.out]) | (at_builtin; refine wpList_append_run rfl (.tmp 54) (.tmp 56) 22 rfl rfl rfl R9.out ?_))
        go_roundw
        case rel => exact ⟨i + 1, up + 1, dk + β.toNat, c9, a + 1 + g, A9, _, by go_num, by omega, rfl, by go_num, by omega, by omega, by go_num, by omega, by rw [← HD2.out], by omega, HST, Q9, S9⟩
        case measure => simp [intOf]; omega
      · rw [if_neg hz] at HST
        go_wp2_with fail
        refine (low_any gp 20 (by omega) (by omega) _).mono ?_
        rw [HG.out]
        rintro e w' ⟨rfl, rfl⟩
        go_wp2_with (first | (simp only [HBT.out]) | (at_builtin; refine wpList_append_run rfl (.tmp 54) (.tmp 56) 22 rfl rfl rfl R9.out ?_))
        go_roundw
        case rel => exact ⟨i + 1, up + 0, dk + β.toNat, c9, a + 1 + g, A9, _, by go_num, by omega, rfl, by go_num, by omega, by omega, by go_num, by omega, by rw [← HD2.out], by omega, HST, Q9, S9⟩
        case measure => simp [intOf]; omega
    · have hlt' : ¬ (i : Int) < (n : Int) := by omega
      have hiN : i = n := by omega
      subst hiN
      have hlen : us.length = i := HR.out.len
      have HMAY := Lib.hid (HI.out.may (by omega))
      have HBEH := Lib.hid (HI.out.behind (by omega))
      have HAFT := Lib.hid HI.out.after
      have HONE := Lib.hid fun q => HI.out.one (q := q)
      have HUPT := Lib.hid HI.out.upto
      have HDAR := Lib.hid HI.out.darks
      obtain ⟨q, HQ⟩ : ∃ q, Hid (lowM z (a + 1) = q) := ⟨_, rfl⟩
      have hqb := lowM_bd z (a + 1) (by omega)
      rw [HQ.out] at hqb
      obtain ⟨hq0, hq1⟩ := hqb
      have HMORE := Lib.hid (HI.out.more (q := q) hq0 (by omega))
      obtain ⟨A1, c1, W1, hr1, ho1, hb1⟩ := copy_new (c := c7) mishK HR.out.lie (by omega)
      have R1 := Lib.hid hr1
      have S1 := Lib.hid hb1
      obtain ⟨A2, c2, W2, hr2, ho2, hg2⟩ := Kind.append_one_b (K := mishK) S1.out.size ho1 (⟨q, 2, 0, 0⟩ : M) (wf_of (by omega) (by omega) (by omega) (by omega) (by omega) (by omega) (by omega) (by omega)) #[.int .i64 q, .int .i64 2, .int .i64 0, .int .u8 0] rfl (by omega)
      have R2 := Lib.hid hr2
      have S2 : Hid (Below wr.heap.size wr W2) := S1.out.grown hg2 S1.out.size (fun b hb => (ho1.row.lt b hb).1)
      have Q2 := Lib.hid ho2
      have U2 := Lib.hid (HR.out.since S2.out)
      clear hr1 ho1 hb1 hr2 ho2 hg2
      obtain ⟨A3, c3, W3, hr3, ho3, hb3⟩ := copy_new (c := c7) mishK U2.out.lie (by omega)
      have R3 := Lib.hid hr3
      have S3 := Lib.hid hb3
      obtain ⟨A4, c4, W4, hr4, ho4, hg4⟩ := Kind.append_one_b (K := mishK) S3.out.size ho3 (⟨a + 1, 1, 65536, 0⟩ : M) (wf_of (by omega) (by omega) (by omega) (by omega) (by omega) (by omega) (by omega) (by omega)) #[.int .i64 (a + 1), .int .i64 1, .int .i64 65536, .int .u8 0] rfl (by omega)
      have R4 := Lib.hid hr4
      have S4 : Hid (Below W2.heap.size W2 W4) := S3.out.grown hg4 S3.out.size (fun b hb => (ho3.row.lt b hb).1)
      have Q4 := Lib.hid ho4
      have P4 := Lib.hid (Q2.out.since S4.out)
      have U4 := Lib.hid (U2.out.since S4.out)
      have T4 := Lib.hid (below_chain HB.out (S2.out.trans (S4.out.mono S2.out.size)))
      clear hr3 ho3 hb3 hr4 ho4 hg4 HI hlen
      have hiu : (up : Int) ≤ (i : Int) := by omega
      go_wp2_with (at_builtin; refine wpList_append_run rfl (.const (.slice none 0 0)) (.tmp 58) 22 rfl rfl rfl R1.out ?_)
      refine (low_any z (a + 1) (by omega) (by omega) _).mono ?_
      rw [HQ.out]
      rintro e w' ⟨rfl, rfl⟩
      go_wp2_with (first | (at_builtin; refine wpList_append_run rfl (.tmp 59) (.tmp 65) 22 rfl rfl rfl R2.out ?_) | (at_builtin; refine wpList_append_run rfl (.const (.slice none 0 0)) (.tmp 67) 22 rfl rfl rfl R3.out ?_) | (at_builtin; refine wpList_append_run rfl (.tmp 68) (.tmp 72) 22 rfl rfl rfl R4.out ?_))
      refine (after7_any z A7 i c7 us W4 (by omega) U4.out.lie).mono ?_
      rintro e W5 ⟨A5, n5, c5, rfl, O5, hb5⟩
      have T5 := Lib.hid (below_chain T4.out hb5.out)
      have P5 := Lib.hid (P4.out.since hb5.out)
      have Q5 := Lib.hid (Q4.out.since hb5.out)
      have U5 := Lib.hid (U4.out.since hb5.out)
      have hn5 : up + n5 = i := by rw [← O5.out.len, HUPT.out]; exact U5.out.len
      clear R1 R2 R3 R4 S1 S2 S3 S4 Q2 U2 P4 Q4 U4 T4 hb5
      go_wp2_with fail
      refine (may7_any A7 i c7 us _ (by omega) U5.out.lie).mono ?_
      rw [HMAY.out]
      rintro e W6 ⟨rfl, hb6⟩
      have T6 := Lib.hid (below_chain T5.out hb6.out)
      have P6 := Lib.hid (P5.out.since hb6.out)
      have Q6 := Lib.hid (Q5.out.since hb6.out)
      have U6 := Lib.hid (U5.out.since hb6.out)
      have O6 := Lib.hid (O5.out.since hb6.out)
      clear T5 P5 Q5 U5 O5 hb6
      go_wp2_with fail
      refine (may7_any A2 (i + 1) c2 _ _ (by omega) P6.out.lie).mono ?_
      rw [HMORE.out]
      rintro e W7 ⟨rfl, hb7⟩
      have T7 := Lib.hid (below_chain T6.out hb7.out)
      have P7 := Lib.hid (P6.out.since hb7.out)
      have Q7 := Lib.hid (Q6.out.since hb7.out)
      have U7 := Lib.hid (U6.out.since hb7.out)
      have O7 := Lib.hid (O6.out.since hb7.out)
      clear T6 P6 Q6 U6 O6 hb7
      go_wp2_with fail
      refine (may7_any A4 (i + 1) c4 _ _ (by omega) Q7.out.lie).mono ?_
      rw [HBEH.out]
      rintro e W8 ⟨rfl, hb8⟩
      have T8 := Lib.hid (below_chain T7.out hb8.out)
      have P8 := Lib.hid (P7.out.since hb8.out)
      have U8 := Lib.hid (U7.out.since hb8.out)
      have O8 := Lib.hid (O7.out.since hb8.out)
      have bl : ((n5 : Int) == (i : Int) - (up : Int)) = true := by simp; omega
      clear T7 P7 Q7 U7 O7 hb8
      go_wp2_with fail
      refine (darks7_any A7 i c7 us _ (by omega) U8.out.lie).mono ?_
      rw [← HDAR.out]
      rintro e W9 ⟨rfl, hb9⟩
      have T9 := Lib.hid (below_chain T8.out hb9.out)
      have P9 := Lib.hid (P8.out.since hb9.out)
      have O9 := Lib.hid (O8.out.since hb9.out)
      have bd : ((dk : Int) == (dk : Int)) = true := by simp
      clear T8 P8 U8 O8 hb9
      go_wp2_with fail
      refine (darks7_any A5 n5 c5 _ _ (by omega) O9.out.lie).mono ?_
      obtain ⟨d5, HD5⟩ : ∃ d5, Hid (darksM (afterM z us) = d5) := ⟨_, rfl⟩
      have hd5 : d5 ≤ dk := by rw [← HD5.out]; exact HAFT.out
      have hd5i : ((d5 : Nat) : Int) ≤ ((dk : Nat) : Int) := by omega
      rw [HD5.out]
      rintro e W10 ⟨rfl, hb10⟩
      have T10 := Lib.hid (below_chain T9.out hb10.out)
      have P10 := Lib.hid (P9.out.since hb10.out)
      clear T9 P9 O9 hb10
      go_wp2_with fail
      refine (darks7_any A2 (i + 1) c2 _ _ (by omega) P10.out.lie).mono ?_
      rw [HONE.out q]
      rintro e W11 ⟨rfl, hb11⟩
      have T11 := Lib.hid (below_chain T10.out hb11.out)
      have b1 : (((dk + 1 : Nat) : Int) == (dk : Int) + 1) = true := by simp
      clear T10 P10 hb11
      go_wp2_with fail
      refine (awake7_any _).mono ?_
      rintro e W12 ⟨rfl, hb12⟩
      have T12 := Lib.hid (below_chain T11.out hb12.out)
      go_wp2_with fail
      go_ret
      exact ⟨rfl, T12⟩
end Go.Proofs.Ytgonphcjkoobmaa
