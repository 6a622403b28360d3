/- StoreNone: true, whatever its arguments are. Conditions: what the listed variables hold. -/
import Derived.Test.YthgkdnegnecnjaaGreatDoorSstoree
set_option linter.unusedVariables false
set_option linter.unusedSimpArgs false
set_option maxRecDepth 20000
namespace Go.Proofs.YthgkdnegnecnjaaGreatDoor
open Go.RowKit

set_option maxHeartbeats 8000000 in
theorem snone_law (p b : Int) (w : World) (hT : Tabs w) (hW : Wid w) : Calls Tryz.prog 6 #[.int .i64 p, .int .i64 b] w (SaysB w true) := by
  have HT := Lib.hid hT
  have HW := Lib.hid hW
  clear hT hW
  go_enter Tryz.func6, Tryz.ntmps6
  go_wp2_with fail
  refine (sput_nil (.slice none 0 0) .nilIface 1 0 1 0 w).mono ?_
  rintro e W1 ⟨v1, rfl, he1, hb1⟩
  have E1 := Lib.hid he1.at_
  have S1 := Lib.hid hb1
  clear he1 hb1
  go_wp2_with fail
  refine (sget_nil p W1).mono ?_
  rintro e W2 ⟨v2, rfl, he2, hb2⟩
  have F2 := Lib.hid he2.at_
  have S2 := Lib.hid (below_chain S1.out hb2)
  have E2 := Lib.hid (E1.out.step (Moves.of_below hb2))
  clear he2 hb2 S1 E1
  have hb3 : Below W2.heap.size W2 (W2.alloc (.cells #[.int .i64 0, .int .u64 0, .int .i64 0, .int .i64 0] 42)) := (Below.refl _ _).alloc (Nat.le_refl _) _
  have S3 := Lib.hid (below_chain S2.out hb3)
  have E3 := Lib.hid (E2.out.step (Moves.of_below hb3))
  have F3 := Lib.hid (F2.out.step (Moves.of_below hb3))
  clear hb3 S2 E2 F2
  go_wp2_with fail
  obtain ⟨W4, HW4⟩ : ∃ W4, Hid (W4 = (W2.alloc (.cells #[.int .i64 0, .int .u64 0, .int .i64 0, .int .i64 0] 42))) := ⟨_, rfl⟩
  rw [← HW4.out]
  rw [← HW4.out] at S3 E3 F3
  clear HW4
  go_wp2_with fail
  refine (shead_nil p W4).mono ?_
  rintro e W5 ⟨rfl, hb5⟩
  have S5 := Lib.hid (below_chain S3.out hb5.out)
  have E5 := Lib.hid (E3.out.step (Moves.of_below hb5.out))
  have F5 := Lib.hid (F3.out.step (Moves.of_below hb5.out))
  clear hb5 S3 E3 F3
  have hb6 : Below W5.heap.size W5 (W5.alloc (.cells #[.int .i64 0, .int .u64 0, .int .i64 0, .int .i64 0] 42)) := (Below.refl _ _).alloc (Nat.le_refl _) _
  have S6 := Lib.hid (below_chain S5.out hb6)
  have E6 := Lib.hid (E5.out.step (Moves.of_below hb6))
  have F6 := Lib.hid (F5.out.step (Moves.of_below hb6))
  clear hb6 S5 E5 F5
  go_wp2_with fail
  refine (new_yes 2 2 128 none 0 0 [] none 0 0 [] _ (by kernel_rfl) Kind.Lie.none_ Kind.Lie.none_ (by decide) (by decide)).mono ?_
  rintro e W7 ⟨gc, fc, rfl, hc7, hb7⟩
  have S7 := Lib.hid (below_chain S6.out hb7)
  have E7 := Lib.hid (E6.out.step (Moves.of_below hb7))
  have F7 := Lib.hid (F6.out.step (Moves.of_below hb7))
  have C7 := Lib.hid hc7
  clear hb7 hc7 S6 E6 F6
  go_wp2_with fail
  refine (snew_bad 2 (Or.inl ⟨rfl, by kernel_rfl⟩) C7.out).mono ?_
  rintro e W8 ⟨v8, rfl, he8, hb8⟩
  have G8 := Lib.hid he8.at_
  have S8 := Lib.hid (below_chain S7.out hb8)
  have E8 := Lib.hid (E7.out.step (Moves.of_below hb8))
  have F8 := Lib.hid (F7.out.step (Moves.of_below hb8))
  clear he8 hb8 S7 E7 F7
  go_wp2_with fail
  refine (err_num E8.out).mono ?_
  rintro e w9 ⟨rfl, rfl⟩
  go_wp2_with fail
  refine (err_num F8.out).mono ?_
  rintro e w9 ⟨rfl, rfl⟩
  go_wp2_with fail
  refine (sdrop_nil p W8).mono ?_
  rintro e W9 ⟨v9, rfl, he9, hb9⟩
  have D9 := Lib.hid he9.at_
  have S9 := Lib.hid (below_chain S8.out hb9)
  have G9 := Lib.hid (G8.out.step (Moves.of_below hb9))
  clear he9 hb9 S8 G8
  go_wp2_with fail
  refine (err_num D9.out).mono ?_
  rintro e w9 ⟨rfl, rfl⟩
  go_wp2_with fail
  refine (needed_nil W9).mono ?_
  rintro e W10 ⟨A10, n10, c10, rfl, hr10, hb10⟩
  obtain rfl : 0 = n10 := hr10.out.len
  have S10 := Lib.hid (below_chain S9.out hb10.out)
  have G10 := Lib.hid (G9.out.step (Moves.of_below hb10.out))
  clear hb10 hr10 S9 G9
  go_wp2_with fail
  refine (block_nil b W10).mono ?_
  rintro e W11 ⟨A11, n11, c11, rfl, hr11, hb11⟩
  obtain rfl : 0 = n11 := hr11.out.len
  have S11 := Lib.hid (below_chain S10.out hb11.out)
  have G11 := Lib.hid (G10.out.step (Moves.of_below hb11.out))
  clear hb11 hr11 S10 G10
  go_wp2_with fail
  refine (sealed_nil W11).mono ?_
  rintro e W12 ⟨A12, n12, c12, rfl, hr12, hb12⟩
  obtain rfl : 0 = n12 := hr12.out.len
  have S12 := Lib.hid (below_chain S11.out hb12.out)
  have G12 := Lib.hid (G11.out.step (Moves.of_below hb12.out))
  clear hb12 hr12 S11 G11
  go_wp2_with fail
  refine (room_nil W12).mono ?_
  rintro e W13 ⟨rfl, hb13⟩
  have S13 := Lib.hid (below_chain S12.out hb13.out)
  have G13 := Lib.hid (G12.out.step (Moves.of_below hb13.out))
  clear hb13 S12 G12
  go_wp2_with fail
  refine (bad_nil W13).mono ?_
  rintro e W14 ⟨rfl, hb14⟩
  have S14 := Lib.hid (below_chain S13.out hb14.out)
  have G14 := Lib.hid (G13.out.step (Moves.of_below hb14.out))
  clear hb14 S13 G13
  go_wp2_with fail
  refine (chip_nil W14).mono ?_
  rintro e W15 ⟨rfl, hb15⟩
  have S15 := Lib.hid (below_chain S14.out hb15.out)
  have G15 := Lib.hid (G14.out.step (Moves.of_below hb15.out))
  clear hb15 S14 G14
  go_wp2_with fail
  refine (err_num G15.out).mono ?_
  rintro e w9 ⟨rfl, rfl⟩
  go_wp2_with fail
  refine (sawake_any W15 (HT.out.since S15.out) (HW.out.since S15.out)).mono ?_
  rintro e W16 ⟨rfl, hb16⟩
  have S16 := Lib.hid (below_chain S15.out hb16.out)
  clear hb16
  go_wp2_with fail
  go_ret
  exact ⟨rfl, S16.out⟩
end Go.Proofs.YthgkdnegnecnjaaGreatDoor
