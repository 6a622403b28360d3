/- TallyTells: true, whatever its arguments are. No conditions. -/
import Derived.Test.YtgenkmihbnkakaaDoorTalAwake
set_option linter.unusedVariables false
set_option linter.unusedSimpArgs false
set_option maxRecDepth 20000
namespace Go.Proofs.YtgenkmihbnkakaaDoor
open Go Go.RowKit

set_option maxHeartbeats 4000000 in
set_option maxRecDepth 100000 in
theorem tells_law (s : ByteArray) (d c m k : Int) (w : World) (HT0 : T10 w) (zs : s.size ≤ 9223372036854775807) (zd : -9223372036854775808 ≤ d ∧ d ≤ 9223372036854775807) (zc : -9223372036854775808 ≤ c ∧ c ≤ 9223372036854775807) (zm : -9223372036854775808 ≤ m ∧ m ≤ 9223372036854775807) (zk : -9223372036854775808 ≤ k ∧ k ≤ 9223372036854775807) :
    Calls Tryd.prog 3 #[.string s, .int .i64 d, .int .i64 c, .int .i64 m, .int .i64 k] w (SaysB w true) := by
  have HT := Lib.hid HT0
  clear HT0
  obtain ⟨z, hz⟩ : ∃ z, s.size = z := ⟨_, rfl⟩
  by_cases h1 : 100 < z
  · go_enter Tryd.func3, Tryd.ntmps3
    go_wp2_with (simp only [hz])
    refine (talawake_any _ HT.out).mono ?_
    rintro e W1 ⟨rfl, hb1⟩
    go_wp2_with fail
    go_ret
    exact ⟨rfl, hb1⟩
  have hs : Hid (s.size ≤ 1000000) := by show _ ≤ _; omega
  go_enter Tryd.func3, Tryd.ntmps3
  go_wp2_with (simp only [hz])
  refine (tpct_any d m zd.1 zd.2 zm.1 zm.2 _).mono ?_
  rintro e W1 ⟨rfl, hb1⟩
  have S1 := Lib.hid hb1
  clear hb1
  go_wp2_with fail
  refine (rtpct_any d m zd.2 zm.2 _).mono ?_
  rintro e w2 ⟨rfl, rfl⟩
  go_wp2_with fail
  refine (tbar_any d m k zd.1 zd.2 zm.1 zm.2 zk.1 zk.2 _).mono ?_
  rintro e W3 ⟨B1, rfl, hB1, hb3⟩
  have S3 := Lib.hid (bch S1.out hb3)
  clear hb3 S1
  go_wp2_with fail
  refine (rtbar_any d m k zd.2 zm.2 _).mono ?_
  rintro e w4 ⟨B2, rfl, hB2, rfl⟩
  obtain rfl : B1 = B2 := ba_ext (hB1.out.trans hB2.out.symm)
  clear hB1 hB2
  go_wp2_with fail
  refine (tline_any s d c m k hs.out zd.1 zd.2 zc.1 zc.2 zm.1 zm.2 zk.1 zk.2 _ (HT.out.since S3.out)).mono ?_
  rintro e W5 ⟨L1, rfl, hL1, hb5⟩
  have S5 := Lib.hid (bch S3.out hb5)
  clear hb5 S3
  go_wp2_with fail
  refine (rtline_any s d c m k hs.out _).mono ?_
  rintro e W6 ⟨L2, rfl, hL2, hb6⟩
  obtain rfl : L1 = L2 := ba_ext (hL1.out.trans hL2.out.symm)
  have S6 := Lib.hid (bch S5.out hb6)
  clear hL1 hL2 hb6 S5
  go_wp2_with fail
  refine (tcols_any s hs.out _).mono ?_
  rintro e W7 ⟨rfl, hb7⟩
  have S7 := Lib.hid (bch S6.out hb7)
  clear hb7 S6
  go_wp2_with fail
  refine (rtcols_any s hs.out _).mono ?_
  rintro e W8 ⟨rfl, hb8⟩
  have S8 := Lib.hid (bch S7.out hb8)
  clear hb8 S7
  go_wp2_with fail
  refine (talawake_any _ (HT.out.since S8.out)).mono ?_
  rintro e W9 ⟨rfl, hb9⟩
  have S9 := Lib.hid (bch S8.out hb9)
  go_wp2_with fail
  go_ret
  exact ⟨rfl, S9.out⟩
end Go.Proofs.YtgenkmihbnkakaaDoor
