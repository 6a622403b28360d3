/- The statements' own awake: true. No conditions. -/
import Derived.Test.YtmfpelgkjgpfmaaYardFace
import Derived.Test.YtmfpelgkjgpfmaaIntsShared
import Derived.Test.YtmfpelgkjgpfmaaOps
set_option linter.unusedVariables false
set_option linter.unusedSimpArgs false
namespace Go.Proofs.Ytmfpelgkjgpfmaa
open Go.RowKit

theorem yawake_math : ∃ s1 s2 s3 : Yd, openY (freshY 2 2) 0 = (s1, 0) ∧ nextY s1 0 = (s2, 0, 0) ∧ wantY s2 0 0 true = (s3, 0) ∧ freeY s3 0 = (s3, 9) ∧ dropY s3 1 9 = (s3, 2) ∧ ((dirtyY s3 0 : Nat) : Int) = 1 ∧ neededY s3 0 = [0] ∧ stY s3 1 = 1 :=
  ⟨_, _, _, rfl, rfl, rfl, rfl, rfl, rfl, rfl, rfl⟩
set_option maxHeartbeats 8000000 in
theorem yawake_with (s0 s1 s2 s3 : Yd) (w : World) (H0 : Hid (freshY 2 2 = s0)) (H1 : Hid (openY s0 0 = (s1, 0))) (H2 : Hid (nextY s1 0 = (s2, 0, 0))) (H3 : Hid (wantY s2 0 0 true = (s3, 0))) (H4 : Hid (freeY s3 0 = (s3, 9))) (H5 : Hid (dropY s3 1 9 = (s3, 2))) (H6 : Hid (((dirtyY s3 0 : Nat) : Int) = 1)) (H7 : Hid (neededY s3 0 = [0])) (H8 : Hid (stY s3 1 = 1)) :
    Calls Try.prog 8 #[] w (SaysB w true) := by
  go_enter Try.func8, Try.ntmps8
  go_wp2_with fail
  refine (ynew_any 2 2 _).mono ?_
  rw [if_pos (show mayY 2 2 = true from rfl), show freshY (2 : Int).toNat (2 : Int).toNat = s0 from H0.out]
  rintro e W0 ⟨g, fp0, rfl, hc0, hb0⟩
  have C0 := Lib.hid hc0
  have S0 := Lib.hid hb0
  clear hc0 hb0
  go_wp2_with fail
  refine (yopen_any 0 C0.out).mono ?_
  rw [H1.out]
  rintro e W2 ⟨v2, fp2, rfl, he2, hc2, hs2⟩
  have S2 := Lib.hid (hs2.below S0.out C0.out.ge S0.out.size)
  have C2 := Lib.hid hc2
  obtain rfl := he2.nil
  clear he2
  clear hc2 hs2 S0 C0
  go_wp2_with fail
  refine (ynext_any 0 C2.out).mono ?_
  rw [H2.out]
  rintro e W3 ⟨v3, fp3, rfl, he3, hc3, hs3⟩
  have S3 := Lib.hid (hs3.below S2.out C2.out.ge S2.out.size)
  have C3 := Lib.hid hc3
  obtain rfl := he3.nil
  clear he3
  clear hc3 hs3 S2 C2
  go_wp2_with fail
  refine (yneed_any 0 0 true C3.out).mono ?_
  rw [H3.out]
  rintro e W4 ⟨v4, fp4, rfl, he4, hc4, hs4⟩
  have S4 := Lib.hid (hs4.below S3.out C3.out.ge S3.out.size)
  have C4 := Lib.hid hc4
  obtain rfl := he4.nil
  clear he4
  clear hc4 hs4 S3 C3
  go_wp2_with fail
  refine (yfree_any 0 C4.out).mono ?_
  rw [H4.out]
  rintro e W5 ⟨v5, fp5, rfl, he5, hc5, hs5⟩
  have S5 := Lib.hid (hs5.below S4.out C4.out.ge S4.out.size)
  have C5 := Lib.hid hc5
  have E5 := Lib.hid he5.at_
  clear he5
  clear hc5 hs5 S4 C4
  go_wp2_with fail
  refine (ydrop_any 1 9 C5.out).mono ?_
  rw [H5.out]
  rintro e W6 ⟨v6, fp6, rfl, he6, hc6, hs6⟩
  have S6 := Lib.hid (hs6.below S5.out C5.out.ge S5.out.size)
  have E6 := Lib.hid (E5.out.step hs6)
  have C6 := Lib.hid hc6
  have F6 := Lib.hid he6.at_
  clear he6
  clear hc6 hs6 S5 E5 C5
  go_wp2_with fail
  refine (err_num E6.out).mono ?_
  rintro e W7 ⟨rfl, hw7⟩
  subst hw7
  clear E6
  go_wp2_with fail
  refine (err_num F6.out).mono ?_
  rintro e W8 ⟨rfl, hw8⟩
  subst hw8
  clear F6
  go_wp2_with fail
  refine (ydirty_any 0 C6.out).mono ?_
  rw [H6.out]
  rintro e W9 ⟨rfl, hb9⟩
  have S9 := Lib.hid (below_chain S6.out hb9.out)
  have C9 := Lib.hid (C6.out.since hb9.out)
  clear hb9 S6 C6
  go_wp2_with fail
  refine (yneeded_any 0 C9.out).mono ?_
  rw [H7.out]
  rintro e W10 ⟨A10, n10, c10, rfl, hi10, hb10⟩
  obtain rfl : 1 = n10 := hi10.out.len
  have I10 := Lib.hid (RestK.new hi10.out C9.out.lt)
  have S10 := Lib.hid (below_chain S9.out hb10.out)
  have C10 := Lib.hid (C9.out.since hb10.out)
  clear hb10 hi10 S9 C9
  go_wp2_with fail
  have N11 : Hid (intK.Lie (W10.alloc (.cells #[.int .i64 0] 3)) (W10.alloc (.cells #[.int .i64 0] 3)).heap.size (some ⟨W10.heap.size, 0, none⟩) 1 [0]) := Kind.new1 (K := intK) W10 0 ⟨by omega, by omega⟩ _ rfl
  have hb11 : Below W10.heap.size W10 (W10.alloc (.cells #[.int .i64 0] 3)) := later_alloc _ _
  have S11 := Lib.hid (below_chain S10.out hb11)
  have C11 := Lib.hid (C10.out.since hb11)
  have I11 := Lib.hid (I10.out.since hb11)
  clear hb11 S10 C10 I10
  refine (sameints_yes _ _ 1 _ _ [0] _ (by omega) I11.out.row.lie N11.out).mono ?_
  rintro e W12 ⟨rfl, hb12⟩
  have S12 := Lib.hid (below_chain S11.out hb12)
  have C12 := Lib.hid (C11.out.since hb12)
  clear hb12 N11 I11 S11 C11
  go_wp2_with fail
  refine (ystate_any 1 C12.out).mono ?_
  rw [H8.out]
  rintro e W13 ⟨rfl, hb13⟩
  have S13 := Lib.hid (below_chain S12.out hb13.out)
  have C13 := Lib.hid (C12.out.since hb13.out)
  clear hb13 S12 C12
  go_wp2_with fail
  refine (ynew_any 0 1 _).mono ?_
  rw [if_neg (show ¬ mayY 0 1 = true by decide)]
  rintro e W14 ⟨rfl, hb14⟩
  have S14 := Lib.hid (below_chain S13.out hb14)
  go_wp2_with fail
  go_ret
  exact ⟨rfl, S14⟩
theorem yawake_any (w : World) : Calls Try.prog 8 #[] w (SaysB w true) := by
  obtain ⟨s1, s2, s3, h1, h2, h3, h4, h5, h6, h7, h8⟩ := yawake_math
  exact yawake_with _ s1 s2 s3 w rfl h1 h2 h3 h4 h5 h6 h7 h8
end Go.Proofs.Ytmfpelgkjgpfmaa
