/- The statements' own awake: true. No conditions. -/
import Derived.Test.YthifdiplndgdbaaPackUnfix
import Derived.Test.YthifdiplndgdbaaShared
set_option linter.unusedVariables false
set_option linter.unusedSimpArgs false
namespace Go.Proofs.Ythifdiplndgdbaa
open Go.RowKit

theorem put300 : Pk.put 300 = [172, 2] := by rw [Pk.put_big (by decide), Pk.put_small (by decide)]
theorem get_awake : Pk.get 0 0 [172, 2, 9] = some (300, [9]) := by
  have := Pk.get_put (v := 300) [9] (by decide)
  rwa [put300] at this
set_option maxHeartbeats 2000000 in
theorem awake_any (w : World) : Calls Try.prog 8 #[] w fun e w' => e = .returned (.bool true) ∧ Below w.heap.size w w' := by
  go_enter Try.func8, Try.ntmps8
  go_wp2_with fail
  have b1 := bytes_lit3 w 172 2 9 (by omega) (by omega) (by omega)
  have s1 := since_alloc (Below.refl w.heap.size w) (.cells #[.int .u8 172, .int .u8 2, .int .u8 9] 5)
  refine (get_any _ 3 3 _ _ (by omega) (by omega) b1).mono ?_
  rw [get_awake]
  rintro e W1 ⟨y, A1, n1, c1, rfl, HY, hy0, hy1, hn1, HO1, HB1⟩
  obtain rfl : y = 300 := HY.out
  obtain rfl : 1 = n1 := HO1.out.len
  have S1 := Lib.hid (below_chain s1 HB1.out)
  clear b1 s1 HY hy0 hy1
  go_wp2_with fail
  refine (put_any none 0 0 [] 300 300 _ (by omega) (by omega) rfl (by omega) Bytes.none_).mono ?_
  rw [put300, List.nil_append]
  rintro e W2 ⟨A2, n2, c2, rfl, ho2, hb2⟩
  obtain rfl : 2 = n2 := ho2.len
  have HO2 := Lib.hid ho2
  have S2 := Lib.hid (below_chain S1.out hb2)
  have O2 := Lib.hid (HO1.out.since hb2)
  clear ho2 hb2
  go_wp2_with fail
  have b3 := bytes_lit2 W2 172 2 (by omega) (by omega)
  have s3 := (Below.refl W2.heap.size W2).alloc (Nat.le_refl _) (.cells #[.int .u8 172, .int .u8 2] 5)
  refine (same_since _ _ 2 _ _ [172, 2] _ (by omega) (HO2.out.since s3).bytes b3).mono ?_
  rintro e W3 ⟨rfl, hb3⟩
  have S3 := Lib.hid (below_chain S2.out (below_chain s3 hb3))
  have O3 := Lib.hid (O2.out.since (below_chain s3 hb3))
  clear b3 s3 hb3
  go_wp2_with fail
  have b4 := bytes_new1 W3 9 9 rfl (by omega)
  have s4 := (Below.refl W3.heap.size W3).alloc (Nat.le_refl _) (.cells #[.int .u8 9] 5)
  refine (same_since _ _ 1 _ _ [9] _ (by omega) (O3.out.since s4).bytes b4).mono ?_
  rintro e W4 ⟨rfl, hb4⟩
  have S4 := Lib.hid (below_chain S3.out (below_chain s4 hb4))
  clear b4 s4 hb4
  go_wp2_with fail
  refine (fix_any none 0 0 [] 258 2 258 _ (by omega) (by omega) rfl (by omega) Bytes.none_).mono ?_
  rw [show Pk.fix 258 (fixMany 2) = [1, 2] by decide, List.nil_append]
  rintro e W5 ⟨A5, n5, c5, rfl, ho5, hb5⟩
  obtain rfl : 2 = n5 := ho5.len
  have HO5 := Lib.hid ho5
  have S5 := Lib.hid (below_chain S4.out hb5)
  clear ho5 hb5
  go_wp2_with fail
  have b6 := bytes_lit2 W5 1 2 (by omega) (by omega)
  have s6 := (Below.refl W5.heap.size W5).alloc (Nat.le_refl _) (.cells #[.int .u8 1, .int .u8 2] 5)
  refine (same_since _ _ 2 _ _ [1, 2] _ (by omega) (HO5.out.since s6).bytes b6).mono ?_
  rintro e W6 ⟨rfl, hb6⟩
  have S6 := below_chain S5.out (below_chain s6 hb6)
  clear b6 s6 hb6
  go_wp2_with fail
  go_ret
  exact ⟨rfl, S6⟩
end Go.Proofs.Ythifdiplndgdbaa
