/- The statements' own awake: true. No conditions. -/
import Derived.Test.YtgamjffedlkbeaaNandNew
import Derived.Test.YtgamjffedlkbeaaMade
set_option linter.unusedVariables false
set_option linter.unusedSimpArgs false
namespace Go.Proofs.Ytgamjffedlkbeaa
open Go.RowKit

theorem awake_math (zs : List Nat) (hz : zs.length = 156) : ∃ s1 s2 s3 : Chip, (Chip.fresh 2 2 128 [1] []).program 0 1 zs = (s1, 6) ∧ s1.ops < 1000000 ∧ s1.program 0 0 zs = (s2, 0) ∧ s2.ops < 1000000 ∧ s2.read 0 0 = (s3, 0, zs) ∧ s3.boot = (s3, 9)
    ∧ s3.misuse = 1 ∧ s3.marked 1 = true ∧ s3.on = true ∧ s3.ops = 3 ∧ s3.next 0 = 1 := by
  refine ⟨_, _, _, Chip.program_bad (Chip.why_ok rfl (by decide) (by decide) (by decide) (by decide) hz) (Or.inr (by decide)) (Chip.dark_none rfl), by decide,
    Chip.program_ok (Chip.why_ok rfl (by decide) (by decide) (by decide) (by decide) hz) rfl rfl rfl (Chip.dark_none rfl) (Chip.fails_none rfl), by show (2 : Nat) < 1000000; decide,
    Chip.read_ok (Chip.why_ok rfl (by decide) (by show (0 : Int) < ((2 : Nat) : Int); decide) (by decide) (by show (0 : Int) < ((2 : Nat) : Int); decide) rfl) (Chip.dark_none rfl), rfl, rfl, rfl, rfl, rfl, rfl⟩
set_option maxHeartbeats 8000000 in
theorem awake_with (zs : List Nat) (s0 s1 s2 s3 : Chip) (w : World) (HZ : Hid (List.replicate 156 0 = zs)) (HL : Hid (zs.length = 156)) (HF : Hid (Chip.fresh 2 2 128 [1] [] = s0)) (O0 : s0.ops < 1000000) (H1 : Hid (s0.program 0 1 zs = (s1, 6))) (O1 : s1.ops < 1000000) (H2 : Hid (s1.program 0 0 zs = (s2, 0))) (O2 : s2.ops < 1000000) (H3 : Hid (s2.read 0 0 = (s3, 0, zs)))
    (H4 : Hid (s3.boot = (s3, 9))) (H5 : Hid (s3.misuse = 1)) (H6 : Hid (s3.marked 1 = true)) (H7 : Hid (s3.on = true)) (H8 : Hid (s3.ops = 3)) (H9 : Hid (s3.next 0 = 1)) :
    Calls Try.prog 7 #[] w (SaysB w true) := by
  go_enter Try.func7, Try.ntmps7
  go_wp2_with fail
  have S0 := Lib.hid (since_alloc (Below.refl w.heap.size w) (.cells #[.int .i64 1] 3))
  have M0 : Hid (intK.Lie (w.alloc (.cells #[.int .i64 1] 3)) (w.alloc (.cells #[.int .i64 1] 3)).heap.size (some ⟨w.heap.size, 0, none⟩) 1 [1]) := Kind.new1 (K := intK) w 1 ⟨by decide, by decide⟩ _ rfl
  refine (new_yes 2 2 128 (some ⟨w.heap.size, 0, none⟩) 1 1 [1] none 0 0 [] _ rfl M0.out Kind.Lie.none_ (by decide) (by decide)).mono ?_
  rw [HF.out]
  rintro e W0 ⟨g, fp0, rfl, hc0, hb0⟩
  have C0 := Lib.hid (hc0.elder S0.out.size)
  have S1 := Lib.hid (below_chain S0.out hb0)
  clear S0 M0 hc0 hb0
  obtain ⟨W2, hr2, hb2, ho2⟩ := made_any 156 156 rfl (by omega) W0
  have Z2 := Lib.hid (Rest.new ho2 C0.out.lt)
  have S2 := Lib.hid (below_chain S1.out hb2)
  have C2 := Lib.hid (C0.out.since hb2)
  clear hb2 ho2 S1 C0
  rw [HZ.out] at Z2
  go_wp2_with fail
  refine (program_any 0 1 _ _ _ _ C2.out Z2.out.own.bytes Z2.out.own.cap Z2.out.safe O0).mono ?_
  rw [H1.out]
  rintro e W3 ⟨v3, fp3, rfl, he3, hc3, hs3⟩
  have S3 := Lib.hid (hs3.below S2.out C2.out.ge S2.out.size)
  have Z3 := Lib.hid (Z2.out.step hs3)
  have C3 := Lib.hid hc3
  have E3 := Lib.hid he3.at_
  clear he3
  clear hc3 hs3 S2 Z2 C2
  obtain ⟨W4, hr4, hb4, ho4⟩ := made_any 156 156 rfl (by omega) W3
  have Y4 := Lib.hid (Rest.new ho4 C3.out.lt)
  have S4 := Lib.hid (below_chain S3.out hb4)
  have C4 := Lib.hid (C3.out.since hb4)
  have E4 := Lib.hid (E3.out.step (Moves.of_below hb4))
  clear hb4 ho4 S3 C3 E3
  rw [HZ.out] at Y4
  go_wp2_with fail
  refine (program_any 0 0 _ _ _ _ C4.out Y4.out.own.bytes Y4.out.own.cap Y4.out.safe O1).mono ?_
  rw [H2.out]
  rintro e W5 ⟨v5, fp5, rfl, he5, hc5, hs5⟩
  have S5 := Lib.hid (hs5.below S4.out C4.out.ge S4.out.size)
  have Y5 := Lib.hid (Y4.out.step hs5)
  have E5 := Lib.hid (E4.out.step hs5)
  have C5 := Lib.hid hc5
  obtain rfl := he5.nil
  clear he5
  clear hc5 hs5 S4 Y4 E4 C4
  go_wp2_with fail
  refine (read_any 0 0 C5.out O2).mono ?_
  rw [H3.out]
  rintro e W6 ⟨v6, A6, n6, c6, fp6, rfl, he6, hr6, hc6, hs6⟩
  have S6 := Lib.hid (hs6.below S5.out C5.out.ge S5.out.size)
  have E6 := Lib.hid (E5.out.step hs6)
  have C6 := Lib.hid hc6
  obtain rfl : 156 = n6 := by rw [← hr6.own.len, HL.out]
  have R6 := Lib.hid hr6
  obtain rfl := he6.nil
  clear he6
  clear hr6 hc6 hs6 S5 E5 C5
  go_wp2_with fail
  refine (boot_any C6.out).mono ?_
  rw [H4.out]
  rintro e W7 ⟨v7, fp7, rfl, he7, hc7, hs7⟩
  have S7 := Lib.hid (hs7.below S6.out C6.out.ge S6.out.size)
  have R7 := Lib.hid (R6.out.step hs7)
  have E7 := Lib.hid (E6.out.step hs7)
  have C7 := Lib.hid hc7
  have F7 := Lib.hid he7.at_
  clear he7
  clear hc7 hs7 S6 R6 E6 C6
  go_wp2_with fail
  refine (err_num E7.out).mono ?_
  rintro e W8 ⟨rfl, hw8⟩
  subst hw8
  clear E7
  obtain ⟨W9, hr9, hb9, ho9⟩ := made_any 156 156 rfl (by omega) W7
  have X9 := Lib.hid (Rest.new ho9 C7.out.lt)
  have S9 := Lib.hid (below_chain S7.out hb9)
  have C9 := Lib.hid (C7.out.since hb9)
  have R9 := Lib.hid (R7.out.since hb9)
  have F9 := Lib.hid (F7.out.step (Moves.of_below hb9))
  clear hb9 ho9 S7 C7 R7 F7
  rw [HZ.out] at X9
  go_wp2_with fail
  refine (same_since _ _ 156 _ _ zs _ (by omega) R9.out.own.bytes X9.out.own.bytes).mono ?_
  rintro e W10 ⟨rfl, hb10⟩
  have S10 := Lib.hid (below_chain S9.out hb10)
  have C10 := Lib.hid (C9.out.since hb10)
  have F10 := Lib.hid (F9.out.step (Moves.of_below hb10))
  clear hb10 R9 X9 S9 C9 F9
  go_wp2_with fail
  refine (err_num F10.out).mono ?_
  rintro e W11 ⟨rfl, hw11⟩
  subst hw11
  clear F10
  go_wp2_with fail
  refine (misuse_any C10.out).mono ?_
  rw [H5.out]
  rintro e W12 ⟨rfl, hb12⟩
  have S12 := Lib.hid (below_chain S10.out hb12.out)
  have C12 := Lib.hid (C10.out.since hb12.out)
  clear hb12 S10 C10
  go_wp2_with fail
  refine (marked_any 1 C12.out).mono ?_
  rw [H6.out]
  rintro e W13 ⟨rfl, hb13⟩
  have S13 := Lib.hid (below_chain S12.out hb13.out)
  have C13 := Lib.hid (C12.out.since hb13.out)
  clear hb13 S12 C12
  go_wp2_with fail
  refine (on_any C13.out).mono ?_
  rw [H7.out]
  rintro e W14 ⟨rfl, hb14⟩
  have S14 := Lib.hid (below_chain S13.out hb14.out)
  have C14 := Lib.hid (C13.out.since hb14.out)
  clear hb14 S13 C13
  go_wp2_with fail
  refine (ops_any C14.out).mono ?_
  rw [H8.out]
  rintro e W15 ⟨rfl, hb15⟩
  have S15 := Lib.hid (below_chain S14.out hb15.out)
  have C15 := Lib.hid (C14.out.since hb15.out)
  clear hb15 S14 C14
  go_wp2_with fail
  refine (next_any 0 C15.out).mono ?_
  rw [H9.out]
  rintro e W16 ⟨rfl, hb16⟩
  have S16 := Lib.hid (below_chain S15.out hb16.out)
  have C16 := Lib.hid (C15.out.since hb16.out)
  clear hb16 S15 C15
  go_wp2_with fail
  go_ret
  exact ⟨rfl, S16⟩
theorem awake_any (w : World) : Calls Try.prog 7 #[] w (SaysB w true) := by
  obtain ⟨s1, s2, s3, h1, o1, h2, o2, h3, h4, h5, h6, h7, h8, h9⟩ := awake_math (List.replicate 156 0) (List.length_replicate ..)
  exact awake_with _ _ s1 s2 s3 w rfl (List.length_replicate ..) rfl (by decide) h1 o1 h2 o2 h3 h4 h5 h6 h7 h8 h9
end Go.Proofs.Ytgamjffedlkbeaa
