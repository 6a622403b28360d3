/- What the statements ask of every program of plan: it is awake. No conditions. -/
import Derived.Test.YtgdnpgijaijlhaaPlanRest
import Derived.Test.YtgdnpgijaijlhaaShared
set_option linter.unusedVariables false
set_option linter.unusedSimpArgs false
namespace Go.Proofs.Ytgdnpgijaijlhaa
open Go.RowKit Go.Sort

def numsB (m n : Nums) : Bool := decide (m.pages = n.pages ∧ m.each = n.each ∧ m.check = n.check ∧ m.spare = n.spare ∧ m.room = n.room ∧ m.most = n.most)
theorem run_eql_same (n0 n1 n2 n3 n4 n5 : Int) (w : World) : (binOp .eql 28 (.agg #[.int .i64 n0, .int .i64 n1, .int .i64 n2, .int .i64 n3, .int .i64 n4, .int .i64 n5]) (.agg #[.int .i64 n0, .int .i64 n1, .int .i64 n2, .int .i64 n3, .int .i64 n4, .int .i64 n5])).run Try.prog w = .ok (.bool true) w := by
  go_simp
def g16 : Geo := ⟨16, 4, 128⟩
theorem g16_of : ofG g16 = ⟨64, 5, 4, 13, 3, 712⟩ := by first | decide | rfl | kernel_rfl
theorem g16_may : mayG g16 = true := by first | decide | rfl | kernel_rfl
theorem g16_limit : limitG g16 1 = 8 := by first | decide | rfl | kernel_rfl
theorem g16_page : pageG g16 2 1 = 9 := by first | decide | rfl | kernel_rfl
theorem g16_place : placeG g16 9 = (2, 1) := by first | decide | rfl | kernel_rfl
set_option maxHeartbeats 2000000 in
theorem awake_any (w : World) : Calls Try.prog 9 #[] w (SaysB w true) := by
  have S1 := Lib.hid (since_alloc (Below.refl w.heap.size w) (.cells #[.int .i64 16, .int .i64 4, .int .i64 128] 23))
  have G1 : Hid (GeoAt (w.alloc (.cells #[.int .i64 16, .int .i64 4, .int .i64 128] 23)) w.heap.size g16) := geoAt_new w g16
  have cL := Lib.hid (fun W => place_any g16 9 W)
  have cO := Lib.hid (fun W => of_any g16 W)
  have cM := Lib.hid (fun W => may_any g16 W)
  have cI := Lib.hid (fun W => limit_any g16 1 W (by omega))
  have cP := Lib.hid (fun W => page_any g16 2 1 W)
  rw [g16_place] at cL
  rw [g16_of] at cO
  rw [g16_may] at cM
  rw [g16_limit] at cI
  rw [g16_page] at cP
  unfold g16 geoV at cL cO cM cI cP
  unfold numsV at cO
  dsimp only at cL cO cM cI cP
  obtain ⟨W1, HW1⟩ : ∃ W1, Hid (W1 = w.alloc (.cells #[.int .i64 16, .int .i64 4, .int .i64 128] 23)) := ⟨_, rfl⟩
  have hq := run_eql_same 64 5 4 13 3 712
  go_enter Try.func9, Try.ntmps9
  go_wp2_with fail
  rw [← HW1.out] at S1 G1 ⊢
  clear HW1
  refine (cL.out _).mono ?_
  rintro e W2 ⟨rfl, hb2⟩
  have S2 := Lib.hid (below_chain S1.out hb2.out)
  have G2 := Lib.hid (G1.out.since hb2.out)
  clear S1 G1 hb2
  obtain ⟨g0, g1, g2, _⟩ := G2.out
  unfold g16 at g0 g1 g2
  dsimp only at g0 g1 g2
  go_wp2_with fail
  refine (cO.out _).mono ?_
  rintro e W3 ⟨rfl, hb3⟩
  have S3 := Lib.hid (below_chain S2.out hb3.out)
  have G3 := Lib.hid (G2.out.since hb3.out)
  clear S2 G2 hb3 g0 g1 g2
  obtain ⟨g0, g1, g2, _⟩ := G3.out
  unfold g16 at g0 g1 g2
  dsimp only at g0 g1 g2
  go_wp2_with fail
  refine (cM.out _).mono ?_
  rintro e W4 ⟨rfl, hb4⟩
  have S4 := Lib.hid (below_chain S3.out hb4.out)
  have G4 := Lib.hid (G3.out.since hb4.out)
  clear S3 G3 hb4 g0 g1 g2
  obtain ⟨g0, g1, g2, _⟩ := G4.out
  unfold g16 at g0 g1 g2
  dsimp only at g0 g1 g2
  go_wp2_with fail
  refine (cI.out _).mono ?_
  rintro e W5 ⟨rfl, hb5⟩
  have S5 := Lib.hid (below_chain S4.out hb5.out)
  have G5 := Lib.hid (G4.out.since hb5.out)
  clear S4 G4 hb5 g0 g1 g2
  obtain ⟨g0, g1, g2, _⟩ := G5.out
  unfold g16 at g0 g1 g2
  dsimp only at g0 g1 g2
  go_wp2_with fail
  refine (cP.out _).mono ?_
  rintro e W6 ⟨rfl, hb6⟩
  have S6 := Lib.hid (below_chain S5.out hb6.out)
  go_wp2_with fail
  go_ret
  exact ⟨rfl, S6⟩
end Go.Proofs.Ytgdnpgijaijlhaa
