/- The statements' own awake: true. No conditions. -/
import Derived.Test.YtopfdeihjjikiaaSegShared
set_option linter.unusedVariables false
set_option linter.unusedSimpArgs false
namespace Go.Proofs.Ytopfdeihjjikiaa
open Go.RowKit

def oneE : Sg.E := ⟨1, 2, true, 3⟩
theorem oneE_ok : Sg.Ok [oneE] := ⟨fun e he => by rw [List.mem_singleton.1 he]; exact ⟨by decide, by decide, by decide, by decide⟩, by simp, by simp, by simp⟩
theorem okN_a : OkN [97] := ⟨by decide, by decide +kernel⟩
theorem str_a : strOf [97] = ⟨#[97]⟩ := rfl
theorem size128 : Sg.sizeOk 128 := ⟨by omega, by omega⟩
theorem parts_one : Sg.parts 128 1 = 1 := by decide
theorem ent_new (W : World) (n : Sg.E) (hn : Sg.OkE n) : entK.Lie (W.alloc (.cells #[.int .u64 (n.addr : Int), .int .i64 (n.page : Int), .bool n.dirty, .int .i64 (n.seq : Int)] 48)) (W.alloc (.cells #[.int .u64 (n.addr : Int), .int .i64 (n.page : Int), .bool n.dirty, .int .i64 (n.seq : Int)] 48)).heap.size (some ⟨W.heap.size, 0, none⟩) 1 [ofE n] :=
  Kind.new1 W (ofE n) (ofE_wf hn) _ rfl
set_option maxHeartbeats 8000000 in
set_option maxRecDepth 20000 in
theorem awake_any (w : World) : Calls Try.prog 7 #[] w (SaysB w true) := by
  obtain ⟨ps, HPS⟩ : ∃ ps, Hid (Sg.cut 128 [97] [oneE] = ps) := ⟨_, rfl⟩
  have hpl : ps.length = 1 := by rw [← HPS.out, Sg.cut_len]; exact parts_one
  have HC := Lib.hid fun W : World => cut_yes 128 [97] (some ⟨w.heap.size, 0, none⟩) 1 1 [oneE] (w.alloc (.cells #[.int .u64 1, .int .i64 2, .bool true, .int .i64 3] 48)) size128 okN_a oneE_ok (Nat.le_refl 1) (ent_new w oneE (oneE_ok.each _ (by simp)))
  rw [HPS.out, str_a] at HC
  have S0 := Lib.hid (since_alloc (Below.refl w.heap.size w) (.cells #[.int .u64 1, .int .i64 2, .bool true, .int .i64 3] 48))
  go_enter Try.func7, Try.ntmps7
  go_wp2_with fail
  refine (HC.out w).mono ?_
  rintro e W1 ⟨g, B, C, rfl, R1, hb1⟩
  have S1 := Lib.hid (below_chain S0.out hb1.out)
  have hlay := R1.out.lays rfl
  rw [← HPS.out] at hlay
  have HLY := Lib.hid hlay
  rw [HPS.out] at HLY
  have HJ := Lib.hid (join_cut (some ⟨g, 0, none⟩) _ ps.length 128 _ [97] [oneE] W1 size128 okN_a oneE_ok hlay)
  rw [HPS.out, hpl, str_a] at HJ
  rw [hpl]
  clear hlay HC S0 hb1
  go_wp2_with fail
  refine HJ.out.mono ?_
  rintro e W2 ⟨A2, n2, c2, rfl, O2, hb2⟩
  have S2 := Lib.hid (below_chain S1.out hb2.out)
  obtain rfl : 1 = n2 := O2.out.len
  clear S1 hb2 HJ HLY R1
  go_wp2_with fail
  refine (join_none none 0 0 0 [] [] [] _ (by omega) (none_pts 0) Lays.none_ none_joint).mono ?_
  rintro e W3 ⟨v3, rfl, HW3, hb3⟩
  have S3 := Lib.hid (below_chain S2.out hb3.out)
  have O3 := Lib.hid (O2.out.since hb3.out)
  clear S2 hb3 O2
  go_wp2_with fail
  refine (each_any 128 _).mono ?_
  rw [show eachI 128 = 5 by decide]
  rintro e w' ⟨rfl, rfl⟩
  go_wp2_with fail
  have L4 := later_alloc W3 (.cells #[.int .u64 1, .int .i64 2, .bool true, .int .i64 3] 48)
  have S4 := Lib.hid (since_alloc S3.out (.cells #[.int .u64 1, .int .i64 2, .bool true, .int .i64 3] 48))
  refine (sameentries_since A2 (some ⟨W3.heap.size, 0, none⟩) 1 c2 1 [ofE oneE] _ (by omega) (O3.out.since L4).lie (ent_new W3 oneE (oneE_ok.each _ (by simp)))).mono ?_
  rintro e W5 ⟨rfl, hb5⟩
  have S5 := Lib.hid (below_chain S4.out hb5.out)
  have E5 := Lib.hid ((HW3.out.since L4).since hb5.out)
  clear S3 S4 O3 hb5 L4 HW3
  go_wp2_with fail
  refine (num_wrong 3 (by omega) v3 _ E5.out).mono ?_
  rintro e w' ⟨rfl, rfl⟩
  go_wp2_with fail
  refine (parts_any 128 6 _ (by omega)).mono ?_
  rw [show partsI 128 6 = 2 by decide]
  rintro e w' ⟨rfl, rfl⟩
  go_wp2_with fail
  go_ret
  exact ⟨rfl, S5⟩
end Go.Proofs.Ytopfdeihjjikiaa
