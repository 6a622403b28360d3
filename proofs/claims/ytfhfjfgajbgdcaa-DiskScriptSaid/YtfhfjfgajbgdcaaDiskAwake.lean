/- The statements' own awake: true. No conditions. -/
import Derived.Test.YtfhfjfgajbgdcaaDiskFace
import Derived.Test.YtfhfjfgajbgdcaaFill
import Derived.Test.YtfhfjfgajbgdcaaIntsShared
set_option linter.unusedVariables false
set_option linter.unusedSimpArgs false
namespace Go.Proofs.Ytfhfjfgajbgdcaa
open Go.RowKit

theorem dawake_math (f zs : List Nat) (hl : f.length = 128) (hz : List.replicate 128 0 = zs) : ∃ s1 s2 : RD, (afterWrite (freshD 2 128 [1]) 0 f, writeO (freshD 2 128 [1]) 0 f.length) = (s1, 0) ∧ s1.W.length = 1 ∧ (afterWrite s1 1 f, writeO s1 1 f.length) = (s1, 5) ∧ s1.W.map (·.1) = [0]
    ∧ (afterCrash s1 [], crashN s1 []) = (s2, 0) ∧ readO s2 0 = (0, zs) ∧ s2.F.length = 2 := by
  have w0 : writeO (freshD 2 128 [1]) 0 f.length = 0 := by rw [hl]; rfl
  have a0 : afterWrite (freshD 2 128 [1]) 0 f = { freshD 2 128 [1] with W := [(0, f)] } := by unfold afterWrite; rw [w0, if_pos rfl]; rfl
  have w1 : writeO { freshD 2 128 [1] with W := [(0, f)] } 1 f.length = 5 := by rw [hl]; rfl
  have a1 : afterWrite { freshD 2 128 [1] with W := [(0, f)] } 1 f = { freshD 2 128 [1] with W := [(0, f)] } := by unfold afterWrite; rw [w1, if_neg (by decide)]
  refine ⟨_, { freshD 2 128 [1] with W := [] }, by rw [w0, a0], rfl, by rw [w1, a1], rfl, rfl, ?_, rfl⟩
  rw [← hz]; rfl
set_option maxHeartbeats 8000000 in
theorem dawake_with (f zs : List Nat) (s0 s1 s2 : RD) (w : World) (HF : Hid (fillL 7 128 = f)) (HZ : Hid (List.replicate 128 0 = zs)) (HZL : Hid (zs.length = 128)) (HS0 : Hid (freshD 2 128 [1] = s0)) (hw0 : s0.W.length < 1000) (H1 : Hid ((afterWrite s0 0 f, writeO s0 0 f.length) = (s1, 0))) (hw1 : s1.W.length = 1) (H2 : Hid ((afterWrite s1 1 f, writeO s1 1 f.length) = (s1, 5)))
    (H3 : Hid (s1.W.map (·.1) = [0])) (H4 : Hid ((afterCrash s1 [], crashN s1 []) = (s2, 0))) (H5 : Hid (readO s2 0 = (0, zs))) (H6 : Hid (s2.F.length = 2)) :
    Calls Try.prog 7 #[] w (SaysB w true) := by
  have hw1a : s1.W.length < 1000 := by omega
  have hw1b : s1.W.length ≤ 1000 := by omega
  go_enter Try.func7, Try.ntmps7
  go_wp2_with fail
  have S0 := Lib.hid (since_alloc (Below.refl w.heap.size w) (.cells #[.int .i64 1] 3))
  have M0 : Hid (intK.Lie (w.alloc (.cells #[.int .i64 1] 3)) (w.alloc (.cells #[.int .i64 1] 3)).heap.size (some ⟨w.heap.size, 0, none⟩) 1 [1]) := Kind.new1 (K := intK) w 1 ⟨by decide, by decide⟩ _ rfl
  refine (dnew_any 2 128 (some ⟨w.heap.size, 0, none⟩) 1 1 [1] _ (by omega) M0.out).mono ?_
  rw [if_pos (show mayD 2 128 = true from rfl), show freshD (2 : Int).toNat (128 : Int).toNat [1] = s0 from HS0.out]
  rintro e W0 ⟨g, fp0, rfl, hc0, hb0⟩
  have C0 := Lib.hid (hc0.elder S0.out.size)
  have S1 := Lib.hid (below_chain S0.out hb0)
  clear S0 M0 hc0 hb0
  go_wp2_with fail
  refine (fill_any 7 128 _ (by omega)).mono ?_
  rintro e W2 ⟨A2, n2, c2, rfl, ho2, hb2⟩
  obtain rfl : 128 = n2 := by rw [← ho2.len, fillL_len]
  have F2 := Lib.hid (Rest.new ho2 C0.out.lt)
  have S2 := Lib.hid (below_chain S1.out hb2)
  have C2 := Lib.hid (C0.out.since hb2)
  clear hb2 ho2 S1 C0
  rw [HF.out] at F2
  go_wp2_with fail
  refine (dwrite_any 0 _ _ _ _ C2.out hw0 F2.out.own.bytes F2.out.safe (by omega)).mono ?_
  rw [H1.out]
  rintro e W3 ⟨v3, fp3, rfl, he3, hc3, hs3⟩
  have S3 := Lib.hid (hs3.below S2.out C2.out.ge S2.out.size)
  have F3 := Lib.hid (F2.out.step hs3)
  have C3 := Lib.hid hc3
  obtain rfl := he3.nil
  clear he3
  clear hc3 hs3 S2 F2 C2
  go_wp2_with fail
  refine (fill_any 7 128 _ (by omega)).mono ?_
  rintro e W4 ⟨A4, n4, c4, rfl, ho4, hb4⟩
  obtain rfl : 128 = n4 := by rw [← ho4.len, fillL_len]
  have F4 := Lib.hid (Rest.new ho4 C3.out.lt)
  have S4 := Lib.hid (below_chain S3.out hb4)
  have C4 := Lib.hid (C3.out.since hb4)
  clear hb4 ho4 S3 C3
  rw [HF.out] at F4
  go_wp2_with fail
  refine (dwrite_any 1 _ _ _ _ C4.out hw1a F4.out.own.bytes F4.out.safe (by omega)).mono ?_
  rw [H2.out]
  rintro e W5 ⟨v5, fp5, rfl, he5, hc5, hs5⟩
  have S5 := Lib.hid (hs5.below S4.out C4.out.ge S4.out.size)
  have F5 := Lib.hid (F4.out.step hs5)
  have C5 := Lib.hid hc5
  have E5 := Lib.hid he5.at_
  clear he5
  clear hc5 hs5 S4 F4 C4
  go_wp2_with fail
  refine (dwaiting_any C5.out).mono ?_
  rw [H3.out]
  rintro e W6 ⟨A6, n6, c6, rfl, hi6, hb6⟩
  obtain rfl : 1 = n6 := hi6.out.len
  have I6 := Lib.hid (RestK.new hi6.out C5.out.lt)
  have S6 := Lib.hid (below_chain S5.out hb6.out)
  have C6 := Lib.hid (C5.out.since hb6.out)
  have E6 := Lib.hid (E5.out.step (Moves.of_below hb6.out))
  clear hb6 hi6 S5 C5 E5
  go_wp2_with fail
  refine (dcrash_any none 0 0 [] C6.out hw1b (by omega) Kind.Lie.none_ (fun h b hb => by cases hb)).mono ?_
  rw [H4.out]
  rintro e W7 ⟨fp7, rfl, hc7, hs7⟩
  have S7 := Lib.hid (hs7.below S6.out C6.out.ge S6.out.size)
  have I7 := Lib.hid (I6.out.step hs7)
  have E7 := Lib.hid (E6.out.step hs7)
  have C7 := Lib.hid hc7
  clear hc7 hs7 S6 I6 E6 C6
  go_wp2_with fail
  refine (dread_any 0 C7.out).mono ?_
  rw [H5.out]
  rintro e W8 ⟨v8, A8, n8, c8, rfl, he8, ho8, hb8⟩
  obtain rfl : 128 = n8 := by rw [← ho8.len]; exact HZL.out.symm
  have R8 := Lib.hid (Rest.new ho8 C7.out.lt)
  have S8 := Lib.hid (below_chain S7.out hb8)
  have C8 := Lib.hid (C7.out.since hb8)
  have I8 := Lib.hid (I7.out.since hb8)
  have E8 := Lib.hid (E7.out.step (Moves.of_below hb8))
  obtain rfl := he8.nil
  clear he8
  clear ho8 hb8 S7 C7 I7 E7
  go_wp2_with fail
  refine (err_num E8.out).mono ?_
  rintro e W9 ⟨rfl, hw9⟩
  subst hw9
  clear E8
  go_wp2_with fail
  have N10 : Hid (intK.Lie (W8.alloc (.cells #[.int .i64 0] 3)) (W8.alloc (.cells #[.int .i64 0] 3)).heap.size (some ⟨W8.heap.size, 0, none⟩) 1 [0]) := Kind.new1 (K := intK) W8 0 ⟨by decide, by decide⟩ _ rfl
  have hb10 : Below W8.heap.size W8 (W8.alloc (.cells #[.int .i64 0] 3)) := later_alloc _ _
  have S10 := Lib.hid (below_chain S8.out hb10)
  have C10 := Lib.hid (C8.out.since hb10)
  have I10 := Lib.hid (I8.out.since hb10)
  have R10 := Lib.hid (R8.out.since hb10)
  clear hb10 S8 C8 I8 R8
  refine (sameints_yes _ _ 1 _ _ [0] _ (by omega) I10.out.row.lie N10.out).mono ?_
  rintro e W10 ⟨rfl, hb10⟩
  have S11 := Lib.hid (below_chain S10.out hb10)
  have C11 := Lib.hid (C10.out.since hb10)
  have R11 := Lib.hid (R10.out.since hb10)
  clear hb10 N10 S10 C10 R10
  obtain ⟨W12, hr12, hb12, ho12⟩ := made_any 128 128 rfl (by omega) W10
  have Z12 := Lib.hid (Rest.new ho12 C11.out.lt)
  have S12 := Lib.hid (below_chain S11.out hb12)
  have C12 := Lib.hid (C11.out.since hb12)
  have R12 := Lib.hid (R11.out.since hb12)
  clear hb12 ho12 S11 C11 R11
  rw [HZ.out] at Z12
  go_wp2_with fail
  refine (same_since _ _ 128 _ _ zs _ (by omega) R12.out.own.bytes Z12.out.own.bytes).mono ?_
  rintro e W13 ⟨rfl, hb13⟩
  have S13 := Lib.hid (below_chain S12.out hb13)
  have C13 := Lib.hid (C12.out.since hb13)
  clear hb13 R12 Z12 S12 C12
  go_wp2_with fail
  refine (dsectors_any C13.out).mono ?_
  rw [H6.out]
  rintro e W14 ⟨rfl, hb14⟩
  have S14 := Lib.hid (below_chain S13.out hb14.out)
  have C14 := Lib.hid (C13.out.since hb14.out)
  clear hb14 S13 C13
  go_wp2_with fail
  refine (dnew_any 0 128 none 0 0 [] _ (by omega) Kind.Lie.none_).mono ?_
  rw [if_neg (show ¬ mayD 0 128 = true by decide)]
  rintro e W15 ⟨rfl, hb15⟩
  have S15 := Lib.hid (below_chain S14.out hb15)
  go_wp2_with fail
  go_ret
  exact ⟨rfl, S15⟩
theorem dawake_any (w : World) : Calls Try.prog 7 #[] w (SaysB w true) := by
  obtain ⟨s1, s2, h1, h2, h3, h4, h5, h6, h7⟩ := dawake_math (fillL 7 128) (List.replicate 128 0) (fillL_len _ _) rfl
  exact dawake_with _ _ _ s1 s2 w rfl rfl (List.length_replicate ..) rfl (by show 0 < 1000; decide) h1 h2 h3 h4 h5 h6 h7
end Go.Proofs.Ytfhfjfgajbgdcaa
