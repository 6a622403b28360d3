/- The statements' own awake: true. No conditions. -/
import Derived.Test.YtiojnpoefbnjoaaBackFace
import Derived.Test.YtiojnpoefbnjoaaIntsShared
import Derived.Test.YtiojnpoefbnjoaaWordsShared
import Derived.Test.YtiojnpoefbnjoaaOps
set_option linter.unusedVariables false
set_option linter.unusedSimpArgs false
namespace Go.Proofs.Ytiojnpoefbnjoaa
open Go.RowKit

set_option maxHeartbeats 8000000 in
theorem bkawake_with (s0 s1 : Bk) (w : World) (H0 : Hid (freshBk 4 = s0)) (H1 : Hid (setBk s0 3 9 = (s1, 0))) (H2 : Hid (setBk s1 3 8 = (s1, 9))) (H3 : Hid (ofBk s1 3 = some 9)) (H4 : Hid (clearBk s1 2 = (s1, 8))) (H5 : Hid (pagesBk s1 = [3])) (H6 : Hid (rangeBk s1 0 4 = [9])) :
    Calls Try.prog 6 #[] w (SaysB w true) := by
  go_enter Try.func6, Try.ntmps6
  go_wp2_with fail
  refine (bknew_any 4 _).mono ?_
  rw [if_pos (show mayBk 4 = true from rfl), show freshBk (4 : Int).toNat = s0 from H0.out]
  rintro e W0 ⟨g, fp0, rfl, hc0, hb0⟩
  have C0 := Lib.hid hc0
  have S0 := Lib.hid hb0
  clear hc0 hb0
  go_wp2_with fail
  refine (bkset_any 3 9 (by omega) (by omega) C0.out).mono ?_
  rw [H1.out]
  rintro e W2 ⟨v2, fp2, rfl, he2, hc2, hs2⟩
  have S2 := Lib.hid (hs2.below S0.out C0.out.ge S0.out.size)
  have C2 := Lib.hid hc2
  obtain rfl := he2.nil
  clear he2 hc2 hs2 S0 C0
  go_wp2_with fail
  refine (bkset_any 3 8 (by omega) (by omega) C2.out).mono ?_
  rw [H2.out]
  rintro e W3 ⟨v3, fp3, rfl, he3, hc3, hs3⟩
  have S3 := Lib.hid (hs3.below S2.out C2.out.ge S2.out.size)
  have C3 := Lib.hid hc3
  have E3 := Lib.hid he3.at_
  clear he3 hc3 hs3 S2 C2
  go_wp2_with fail
  refine (bkof_any 3 C3.out).mono ?_
  rw [H3.out]
  rintro e W4 ⟨rfl, hb4⟩
  have S4 := Lib.hid (below_chain S3.out hb4.out)
  have C4 := Lib.hid (C3.out.since hb4.out)
  have E4 := Lib.hid (E3.out.step (Moves.of_below hb4.out))
  clear hb4 S3 C3 E3
  go_wp2_with fail
  refine (bkclear_any 2 C4.out).mono ?_
  rw [H4.out]
  rintro e W5 ⟨v5, fp5, rfl, he5, hc5, hs5⟩
  have S5 := Lib.hid (hs5.below S4.out C4.out.ge S4.out.size)
  have E5 := Lib.hid (E4.out.step hs5)
  have C5 := Lib.hid hc5
  have F5 := Lib.hid he5.at_
  clear he5 hc5 hs5 S4 C4 E4
  go_wp2_with fail
  refine (err_num E5.out).mono ?_
  rintro e W7 ⟨rfl, hw7⟩
  subst hw7
  clear E5
  go_wp2_with fail
  refine (err_num F5.out).mono ?_
  rintro e W8 ⟨rfl, hw8⟩
  subst hw8
  clear F5
  go_wp2_with fail
  refine (bkpages_any C5.out).mono ?_
  rw [H5.out]
  rintro e W10 ⟨A10, n10, c10, rfl, hi10, hb10⟩
  obtain rfl : 1 = n10 := hi10.out.len
  have I10 := Lib.hid hi10.out.lie
  have S10 := Lib.hid (below_chain S5.out hb10.out)
  have C10 := Lib.hid (C5.out.since hb10.out)
  clear hb10 hi10 S5 C5
  go_wp2_with fail
  have N11 : Hid (intK.Lie (W10.alloc (.cells #[.int .i64 3] 3)) (W10.alloc (.cells #[.int .i64 3] 3)).heap.size (some ⟨W10.heap.size, 0, none⟩) 1 [3]) := Kind.new1 (K := intK) W10 3 ⟨by omega, by omega⟩ _ rfl
  have hb11 : Below W10.heap.size W10 (W10.alloc (.cells #[.int .i64 3] 3)) := later_alloc _ _
  have S11 := Lib.hid (below_chain S10.out hb11)
  have C11 := Lib.hid (C10.out.since hb11)
  have I11 := Lib.hid (I10.out.since hb11)
  clear hb11 S10 C10 I10
  refine (sameints_yes _ _ 1 _ _ [3] _ (by omega) I11.out N11.out).mono ?_
  rintro e W12 ⟨rfl, hb12⟩
  have S12 := Lib.hid (below_chain S11.out hb12)
  have C12 := Lib.hid (C11.out.since hb12)
  clear hb12 N11 I11 S11 C11
  go_wp2_with fail
  refine (bkrange_any 0 4 C12.out).mono ?_
  rw [H6.out]
  rintro e W13 ⟨A13, n13, c13, rfl, hi13, hb13⟩
  obtain rfl : 1 = n13 := hi13.out.len
  have I13 := Lib.hid hi13.out.lie
  have S13 := Lib.hid (below_chain S12.out hb13.out)
  clear hb13 hi13 S12 C12
  go_wp2_with fail
  have N14 : Hid (wordK.Lie (W13.alloc (.cells #[.int .u64 9] 28)) (W13.alloc (.cells #[.int .u64 9] 28)).heap.size (some ⟨W13.heap.size, 0, none⟩) 1 [9]) := Kind.new1 (K := wordK) W13 9 ⟨by omega, by omega⟩ _ rfl
  have hb14 : Below W13.heap.size W13 (W13.alloc (.cells #[.int .u64 9] 28)) := later_alloc _ _
  have S14 := Lib.hid (below_chain S13.out hb14)
  have I14 := Lib.hid (I13.out.since hb14)
  clear hb14 S13 I13
  refine (samewords_yes _ _ 1 _ _ [9] _ (by omega) I14.out N14.out).mono ?_
  rintro e W15 ⟨rfl, hb15⟩
  have S15 := Lib.hid (below_chain S14.out hb15)
  clear hb15 S14 I14 N14
  go_wp2_with fail
  refine (bknew_any 0 _).mono ?_
  rw [if_neg (show ¬ mayBk 0 = true by decide)]
  rintro e W16 ⟨rfl, hb16⟩
  have S16 := Lib.hid (below_chain S15.out hb16)
  go_wp2_with fail
  go_ret
  exact ⟨rfl, S16⟩
theorem bkawake_any (w : World) : Calls Try.prog 6 #[] w (SaysB w true) :=
  bkawake_with (freshBk 4) [none, none, none, some 9] w rfl rfl rfl rfl rfl rfl rfl
end Go.Proofs.Ytiojnpoefbnjoaa
