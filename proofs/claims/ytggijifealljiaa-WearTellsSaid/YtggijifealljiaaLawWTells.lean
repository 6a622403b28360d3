/- WearTells: true, whatever its arguments are. Conditions: the lists' cells. -/
import Derived.Test.YtggijifealljiaaWearAwake
import Derived.Test.YtggijifealljiaaIntsLend
set_option linter.unusedVariables false
set_option linter.unusedSimpArgs false
namespace Go.Proofs.Ytggijifealljiaa
open Go.RowKit

set_option maxHeartbeats 16000000 in
set_option maxRecDepth 20000 in
theorem tells_law (A : Option Addr) (n c : Nat) (ws : List Int) (A' : Option Addr) (m c' : Nat) (cs : List Bool) (w : World) (hn : n ≤ 9223372036854775807) (hm : m ≤ 9223372036854775807) (ha : intK.Lie w w.heap.size A n ws) (hb : boolK.Lie w w.heap.size A' m cs) :
    Calls Try.prog 3 #[.slice A n c, .slice A' m c'] w (SaysB w true) := by
  have H : Hid (Two2 w A n ws A' m cs) := ⟨ha, hb⟩
  clear ha hb
  by_cases h40 : 40 < n
  · go_enter Try.func3, Try.ntmps3
    go_wp2_with fail
    refine (wawake_any _).mono ?_
    rintro e W1 ⟨rfl, hb⟩
    go_wp2_with fail
    go_ret
    exact ⟨rfl, hb⟩
  by_cases h41 : 40 < m
  · go_enter Try.func3, Try.ntmps3
    go_wp2_with fail
    refine (wawake_any _).mono ?_
    rintro e W1 ⟨rfl, hb⟩
    go_wp2_with fail
    go_ret
    exact ⟨rfl, hb⟩
  have hn40 : n ≤ 40 := by omega
  have hm40 : m ≤ 40 := by omega
  clear h40 h41 hn hm
  obtain ⟨os, HOS⟩ : ∃ os, Hid (orderI ws cs = os) := ⟨_, rfl⟩
  obtain ⟨sp, HSP⟩ : ∃ x, Hid (spreadW ws cs = x) := ⟨_, rfl⟩
  obtain ⟨le, HLE⟩ : ∃ x, Hid (leastW ws cs = x) := ⟨_, rfl⟩
  obtain ⟨gr, HGR⟩ : ∃ x, Hid (greatW ws cs = x) := ⟨_, rfl⟩
  obtain ⟨un, HUN⟩ : ∃ x, Hid (decide (4 < spreadW ws cs) = x) := ⟨_, rfl⟩
  go_enter Try.func3, Try.ntmps3
  go_wp2_with fail
  refine (lendints_any A n c ws w (by omega) H.out.a).mono ?_
  rintro e W1 ⟨rfl, hl⟩
  have N1 := Lib.hid hl
  have S1 := Lib.hid hl.below
  have HLT : Hid (w.heap.size < W1.heap.size) := hl.lt
  clear hl
  go_wp2_with fail
  refine (worder_any _ n _ ws A' m c' cs W1 (by omega) (by omega) ⟨N1.out.lie, (H.out.since S1.out).b⟩).mono ?_
  rw [HOS.out]
  rintro e W2 ⟨A2, n2, c2, rfl, HO, HB⟩
  have S2 := Lib.hid (below_chain S1.out HB.out)
  have N2 := Lib.hid (N1.out.since HB.out)
  have hn2 : n2 ≤ 40 := by rw [← HO.out.len, ← HOS.out]; unfold orderI; rw [List.length_map]; exact Nat.le_trans orderW_len_le (by rw [H.out.a.len]; exact hn40)
  have HSZ : Hid (SzLe W1.heap.size W2) := ⟨HB.out.size⟩
  clear HB S1 N1
  go_wp2_with fail
  refine (reforder_any A n c ws A' m c' cs _ (by omega) (by omega) (H.out.since S2.out)).mono ?_
  rw [HOS.out]
  rintro e W11 ⟨A11, n11, c11, rfl, hi11, hb11⟩
  obtain rfl : n2 = n11 := HO.out.len.symm.trans hi11.out.len
  have S11 := Lib.hid (below_chain S2.out hb11.out)
  have N11 := Lib.hid (N2.out.since hb11.out)
  have O11 := Lib.hid (HO.out.since hb11.out)
  have Z11 := Lib.hid (HSZ.out.since hb11.out)
  clear hb11 S2 N2 HO HSZ
  go_wp2_with fail
  refine (sameints_yes _ _ n2 _ _ os _ (by omega) O11.out.lie hi11.out.lie).mono ?_
  rintro e W12 ⟨rfl, hb12⟩
  have S12 := Lib.hid (below_chain S11.out hb12)
  have N12 := Lib.hid (N11.out.since hb12)
  have O12 := Lib.hid (O11.out.since hb12)
  have Z12 := Lib.hid (Z11.out.since hb12)
  clear hb12 hi11 S11 N11 O11 Z11
  go_wp2_with fail
  refine (wspread_any _ n _ ws A' m c' cs _ (by omega) (by omega) ⟨N12.out.lie, (H.out.since S12.out).b⟩).mono ?_
  rw [HSP.out]
  rintro e W13 ⟨rfl, hb13⟩
  have S13 := Lib.hid (below_chain S12.out hb13.out)
  have N13 := Lib.hid (N12.out.since hb13.out)
  have O13 := Lib.hid (O12.out.since hb13.out)
  have Z13 := Lib.hid (Z12.out.since hb13.out)
  clear hb13 S12 N12 O12 Z12
  go_wp2_with fail
  refine (refspread_any A n c ws A' m c' cs _ (by omega) (by omega) (H.out.since S13.out)).mono ?_
  rw [HSP.out]
  rintro e W14 ⟨rfl, hb14⟩
  have S14 := Lib.hid (below_chain S13.out hb14.out)
  have N14 := Lib.hid (N13.out.since hb14.out)
  have O14 := Lib.hid (O13.out.since hb14.out)
  have Z14 := Lib.hid (Z13.out.since hb14.out)
  clear hb14 S13 N13 O13 Z13
  go_wp2_with fail
  refine (wleast_any _ n _ ws A' m c' cs _ (by omega) (by omega) ⟨N14.out.lie, (H.out.since S14.out).b⟩).mono ?_
  rw [HLE.out]
  rintro e W15 ⟨rfl, hb15⟩
  have S15 := Lib.hid (below_chain S14.out hb15.out)
  have N15 := Lib.hid (N14.out.since hb15.out)
  have O15 := Lib.hid (O14.out.since hb15.out)
  have Z15 := Lib.hid (Z14.out.since hb15.out)
  clear hb15 S14 N14 O14 Z14
  go_wp2_with fail
  refine (refleast_any A n c ws A' m c' cs _ (by omega) (by omega) (H.out.since S15.out)).mono ?_
  rw [HLE.out]
  rintro e W16 ⟨rfl, hb16⟩
  have S16 := Lib.hid (below_chain S15.out hb16.out)
  have N16 := Lib.hid (N15.out.since hb16.out)
  have O16 := Lib.hid (O15.out.since hb16.out)
  have Z16 := Lib.hid (Z15.out.since hb16.out)
  clear hb16 S15 N15 O15 Z15
  go_wp2_with fail
  refine (wgreat_any _ n _ ws A' m c' cs _ (by omega) (by omega) ⟨N16.out.lie, (H.out.since S16.out).b⟩).mono ?_
  rw [HGR.out]
  rintro e W17 ⟨rfl, hb17⟩
  have S17 := Lib.hid (below_chain S16.out hb17.out)
  have N17 := Lib.hid (N16.out.since hb17.out)
  have O17 := Lib.hid (O16.out.since hb17.out)
  have Z17 := Lib.hid (Z16.out.since hb17.out)
  clear hb17 S16 N16 O16 Z16
  go_wp2_with fail
  refine (refgreat_any A n c ws A' m c' cs _ (by omega) (by omega) (H.out.since S17.out)).mono ?_
  rw [HGR.out]
  rintro e W18 ⟨rfl, hb18⟩
  have S18 := Lib.hid (below_chain S17.out hb18.out)
  have N18 := Lib.hid (N17.out.since hb18.out)
  have O18 := Lib.hid (O17.out.since hb18.out)
  have Z18 := Lib.hid (Z17.out.since hb18.out)
  clear hb18 S17 N17 O17 Z17
  go_wp2_with fail
  refine (wuneven_any _ n _ ws A' m c' cs _ (by omega) (by omega) ⟨N18.out.lie, (H.out.since S18.out).b⟩).mono ?_
  rw [HUN.out]
  rintro e W19 ⟨rfl, hb19⟩
  have S19 := Lib.hid (below_chain S18.out hb19.out)
  have N19 := Lib.hid (N18.out.since hb19.out)
  have O19 := Lib.hid (O18.out.since hb19.out)
  have Z19 := Lib.hid (Z18.out.since hb19.out)
  clear hb19 S18 N18 O18 Z18
  go_wp2_with fail
  refine (refuneven_any A n c ws A' m c' cs _ (by omega) (by omega) (H.out.since S19.out)).mono ?_
  rw [HUN.out]
  rintro e W20 ⟨rfl, hb20⟩
  have S20 := Lib.hid (below_chain S19.out hb20.out)
  have N20 := Lib.hid (N19.out.since hb20.out)
  have O20 := Lib.hid (O19.out.since hb20.out)
  have Z20 := Lib.hid (Z19.out.since hb20.out)
  clear hb20 S19 N19 O19 Z19
  go_wp2_with fail
  refine (overints_any _ n2 _ W1.heap.size os _ (by omega) Z20.out.le O20.out).mono ?_
  rintro e W21 ⟨rfl, hg21⟩
  have B21 : Below W1.heap.size W20 W21 := (Below.refl _ _).grown hg21 Z20.out.le (fun b hb => (O20.out.row.lt b hb).1)
  have N21 := Lib.hid (N20.out.upto HLT.out B21)
  have S21 := Lib.hid (S20.out.trans (B21.mono (Nat.le_of_lt HLT.out)))
  clear hg21 O20 N20 Z20 S20
  go_wp2_with fail
  refine (keptints_any A n c ws w _ (by omega) N21.out (H.out.since S21.out).a).mono ?_
  rintro e W22 ⟨rfl, hb22⟩
  have S22 := Lib.hid (below_chain S21.out hb22)
  go_wp2_with fail
  refine (wawake_any _).mono ?_
  rintro e W23 ⟨rfl, hb23⟩
  have S23 := Lib.hid (below_chain S22.out hb23.out)
  go_wp2_with fail
  go_ret
  exact ⟨rfl, S23⟩
end Go.Proofs.Ytggijifealljiaa
