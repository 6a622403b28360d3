/- PlanTells: the numbers of any geometry, and any place in it, are the document's. For every input. -/
import Derived.Test.YtgdnpgijaijlhaaPlanAwake
import Derived.Test.YtgdnpgijaijlhaaRefPlanRest
set_option linter.unusedVariables false
set_option linter.unusedSimpArgs false
namespace Go.Proofs.Ytgdnpgijaijlhaa
open Go.RowKit Go.Sort

set_option maxHeartbeats 8000000 in
theorem tells_law (gb gp gs bad crashes b p n : Int) (w : World) (hb : bad ≤ 9223372036854775807) :
    Calls Try.prog 3 #[.agg #[.int .i64 gb, .int .i64 gp, .int .i64 gs], .int .i64 bad, .int .i64 crashes, .int .i64 b, .int .i64 p, .int .i64 n] w (SaysB w true) := by
  have S1 := Lib.hid (since_alloc (Below.refl w.heap.size w) (.cells #[.int .i64 gb, .int .i64 gp, .int .i64 gs] 23))
  have G1 : Hid (GeoAt (w.alloc (.cells #[.int .i64 gb, .int .i64 gp, .int .i64 gs] 23)) w.heap.size ⟨gb, gp, gs⟩) := geoAt_new w ⟨gb, gp, gs⟩
  by_cases h0 : crashes ≤ 1073741824
  rotate_left
  · go_enter Try.func3, Try.ntmps3
    go_wp2_with fail
    refine (awake_any _).mono ?_
    rintro e W2 ⟨rfl, hb2⟩
    have S2 := Lib.hid (below_chain S1.out hb2.out)
    go_wp2_with fail
    go_ret
    exact ⟨rfl, S2⟩
  by_cases h1 : gb ≤ 1073741824
  rotate_left
  · go_enter Try.func3, Try.ntmps3
    go_wp2_with fail
    refine (awake_any _).mono ?_
    rintro e W2 ⟨rfl, hb2⟩
    have S2 := Lib.hid (below_chain S1.out hb2.out)
    go_wp2_with fail
    go_ret
    exact ⟨rfl, S2⟩
  by_cases h2 : -1073741824 ≤ gb
  rotate_left
  · go_enter Try.func3, Try.ntmps3
    go_wp2_with fail
    refine (awake_any _).mono ?_
    rintro e W2 ⟨rfl, hb2⟩
    have S2 := Lib.hid (below_chain S1.out hb2.out)
    go_wp2_with fail
    go_ret
    exact ⟨rfl, S2⟩
  obtain ⟨W1, HW1⟩ : ∃ W1, Hid (W1 = w.alloc (.cells #[.int .i64 gb, .int .i64 gp, .int .i64 gs] 23)) := ⟨_, rfl⟩
  obtain ⟨N, HN⟩ : ∃ N, Hid (ofG ⟨gb, gp, gs⟩ = N) := ⟨_, rfl⟩
  obtain ⟨m, HM⟩ : ∃ m, Hid (mayG ⟨gb, gp, gs⟩ = m) := ⟨_, rfl⟩
  obtain ⟨li, HL⟩ : ∃ li, Hid (limitG ⟨gb, gp, gs⟩ bad = li) := ⟨_, rfl⟩
  obtain ⟨sp, HS⟩ : ∃ sp, Hid (spreadG ⟨gb, gp, gs⟩ crashes = sp) := ⟨_, rfl⟩
  obtain ⟨pg, HP⟩ : ∃ pg, Hid (pageG ⟨gb, gp, gs⟩ b p = pg) := ⟨_, rfl⟩
  obtain ⟨pl, HPL⟩ : ∃ pl, Hid (placeG ⟨gb, gp, gs⟩ n = pl) := ⟨_, rfl⟩
  have cL := Lib.hid (fun W => place_any ⟨gb, gp, gs⟩ n W)
  have cL' := Lib.hid (fun W => ref10place_any ⟨gb, gp, gs⟩ n W)
  rw [HPL.out] at cL cL'
  unfold geoV at cL cL'
  dsimp only at cL cL'
  go_enter Try.func3, Try.ntmps3
  go_wp2_with fail
  rw [← HW1.out] at S1 G1 ⊢
  clear HW1
  refine (cL.out _).mono ?_
  rintro e W2 ⟨rfl, hb2⟩
  have S2 := Lib.hid (below_chain S1.out hb2.out)
  have G2 := Lib.hid (G1.out.since hb2.out)
  clear S1 G1 hb2
  obtain ⟨g0, g1, g2, _⟩ := G2.out
  dsimp only at g0 g1 g2
  go_wp2_with fail
  refine (cL'.out _).mono ?_
  rintro e W3 ⟨rfl, hb3⟩
  have S3 := Lib.hid (below_chain S2.out hb3.out)
  have G3 := Lib.hid (G2.out.since hb3.out)
  clear S2 G2 hb3 g0 g1 g2
  obtain ⟨g0, g1, g2, _⟩ := G3.out
  dsimp only at g0 g1 g2
  obtain ⟨p1, p2⟩ := pl
  go_wp2_with fail
  have k0 := cell_regrown g0
  have k1 := cell_regrown g1
  have k2 := cell_regrown g2
  have d1 := Lib.hid (fun (d : Nat) (os : Array Obj) => quiet_saysv (of_any ⟨gb, gp, gs⟩ (grow (redrawn W3 d) os)))
  have d2 := Lib.hid (fun (d : Nat) (os : Array Obj) => quiet_saysv (ref10of_any ⟨gb, gp, gs⟩ (grow (redrawn W3 d) os)))
  have d3 := Lib.hid (fun (d : Nat) (os : Array Obj) => quiet_says (may_any ⟨gb, gp, gs⟩ (grow (redrawn W3 d) os)))
  have d4 := Lib.hid (fun (d : Nat) (os : Array Obj) => quiet_says (ref10may_any ⟨gb, gp, gs⟩ (grow (redrawn W3 d) os)))
  have d5 := Lib.hid (fun (d : Nat) (os : Array Obj) => quiet_saysv (limit_any ⟨gb, gp, gs⟩ bad (grow (redrawn W3 d) os) hb))
  have d6 := Lib.hid (fun (d : Nat) (os : Array Obj) => quiet_saysv (ref10limit_any ⟨gb, gp, gs⟩ bad (grow (redrawn W3 d) os) hb))
  have d7 := Lib.hid (fun (d : Nat) (os : Array Obj) => quiet_saysv (spread_any ⟨gb, gp, gs⟩ crashes (grow (redrawn W3 d) os) h2 h1 h0))
  have d8 := Lib.hid (fun (d : Nat) (os : Array Obj) => quiet_saysv (ref10spread_any ⟨gb, gp, gs⟩ crashes (grow (redrawn W3 d) os) h2 h1 h0))
  have d9 := Lib.hid (fun (d : Nat) (os : Array Obj) => quiet_saysv (page_any ⟨gb, gp, gs⟩ b p (grow (redrawn W3 d) os)))
  have d10 := Lib.hid (fun (d : Nat) (os : Array Obj) => quiet_saysv (ref10page_any ⟨gb, gp, gs⟩ b p (grow (redrawn W3 d) os)))
  have d11 := Lib.hid (fun (d : Nat) (os : Array Obj) => quiet_says (awake_any (grow (redrawn W3 d) os)))
  rw [HN.out] at d1 d2
  rw [HM.out] at d3 d4
  rw [HL.out] at d5 d6
  rw [HS.out] at d7 d8
  rw [HP.out] at d9 d10
  obtain ⟨n0, n1, n2, n3, n4, n5⟩ := N
  unfold numsV at d1 d2
  unfold geoV at d1 d2 d3 d4 d5 d6 d7 d8 d9 d10
  dsimp only at d1 d2 d3 d4 d5 d6 d7 d8 d9 d10
  have hq := run_eql_same n0 n1 n2 n3 n4 n5
  refine wp_region_quiet_below (by kernel_rfl) (by kernel_rfl) ?_
  repeat (go_big_quiet_step (first
    | (go_at_call 12; exact d1.out _ _)
    | (go_at_call 13; exact d2.out _ _)
    | (go_at_call 14; exact d3.out _ _)
    | (go_at_call 15; exact d4.out _ _)
    | (go_at_call 16; exact d5.out _ _)
    | (go_at_call 17; exact d6.out _ _)
    | (go_at_call 18; exact d7.out _ _)
    | (go_at_call 19; exact d8.out _ _)
    | (go_at_call 20; exact d9.out _ _)
    | (go_at_call 21; exact d10.out _ _)
    | (go_at_call 9; exact d11.out _ _)))
  refine wpQuiet_nil ?_
  intro W4 hw'
  obtain ⟨⟨dq, osq⟩, hw''⟩ := hw'
  have S4 : Hid (Below w.heap.size w W4) := by rw [hw'']; exact below_chain S3.out (below_regrown W3 dq osq)
  clear hw'' k0 k1 k2 g0 g1 g2 d1 d2 d3 d4 d5 d6 d7 d8 d9 d10 d11
  go_wp2_with fail
  go_ret
  exact ⟨rfl, S4⟩
end Go.Proofs.Ytgdnpgijaijlhaa
