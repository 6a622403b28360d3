/- PlanBad: each bad block takes a block's pages from what may be dirty; each crash one more from how evenly blocks are worn; what may not be has no numbers. For every input. -/
import Derived.Test.YtgdnpgijaijlhaaLawFits
import Derived.Test.YtgdnpgijaijlhaaGeoRow
set_option linter.unusedVariables false
set_option linter.unusedSimpArgs false
namespace Go.Proofs.Ytgdnpgijaijlhaa
open Go.RowKit Go.Sort

set_option maxHeartbeats 8000000 in
theorem bad_law (x1 x2 x3 x4 x5 : Int) (w : World) : Calls Try.prog 7 #[.int .i64 x1, .int .i64 x2, .int .i64 x3, .int .i64 x4, .int .i64 x5] w (SaysB w true) := by
  obtain ⟨la, Hla⟩ : ∃ la, Hid (lowM x1 17 = la) := ⟨_, rfl⟩
  have dla := lowM_bd x1 17 (by omega)
  rw [Hla.out] at dla
  obtain ⟨la0, la1⟩ := dla
  obtain ⟨lb, Hlb⟩ : ∃ lb, Hid (lowM x2 5 = lb) := ⟨_, rfl⟩
  have dlb := lowM_bd x2 5 (by omega)
  rw [Hlb.out] at dlb
  obtain ⟨lb0, lb1⟩ := dlb
  obtain ⟨lc, Hlc⟩ : ∃ lc, Hid (lowM x3 129 = lc) := ⟨_, rfl⟩
  have dlc := lowM_bd x3 129 (by omega)
  rw [Hlc.out] at dlc
  obtain ⟨lc0, lc1⟩ := dlc
  obtain ⟨b, Hb⟩ : ∃ b, Hid (16 + la = b) := ⟨_, rfl⟩
  have b0 : 16 ≤ b := by rw [← Hb.out]; omega
  have b1 : b ≤ 32 := by rw [← Hb.out]; omega
  obtain ⟨p, Hp⟩ : ∃ p, Hid (4 + lb = p) := ⟨_, rfl⟩
  have p0 : 4 ≤ p := by rw [← Hp.out]; omega
  have p1 : p ≤ 8 := by rw [← Hp.out]; omega
  obtain ⟨s, Hs⟩ : ∃ s, Hid (128 + lc = s) := ⟨_, rfl⟩
  have s0 : 128 ≤ s := by rw [← Hs.out]; omega
  have s1 : s ≤ 256 := by rw [← Hs.out]; omega
  have S1 := Lib.hid (since_alloc (Below.refl w.heap.size w) (.cells #[.int .i64 b, .int .i64 p, .int .i64 s] 23))
  have G1 : Hid (GeoAt (w.alloc (.cells #[.int .i64 b, .int .i64 p, .int .i64 s] 23)) w.heap.size ⟨b, p, s⟩) := geoAt_new w ⟨b, p, s⟩
  obtain ⟨W1, HW1⟩ : ∃ W1, Hid (W1 = w.alloc (.cells #[.int .i64 b, .int .i64 p, .int .i64 s] 23)) := ⟨_, rfl⟩
  go_enter Try.func7, Try.ntmps7
  go_wp2_with fail
  refine (low_any x1 17 (by omega) (by omega) _).mono ?_
  rw [Hla.out]
  rintro e w' ⟨rfl, rfl⟩
  go_wp2_with fail
  refine (low_any x2 5 (by omega) (by omega) _).mono ?_
  rw [Hlb.out]
  rintro e w' ⟨rfl, rfl⟩
  go_wp2_with fail
  refine (low_any x3 129 (by omega) (by omega) _).mono ?_
  rw [Hlc.out]
  rintro e w' ⟨rfl, rfl⟩
  go_wp2_with fail
  obtain ⟨bad, HBAD⟩ : ∃ bad, Hid (lowM x4 40 = bad) := ⟨_, rfl⟩
  have dbad := lowM_bd x4 40 (by omega)
  rw [HBAD.out] at dbad
  obtain ⟨n0, n1⟩ := dbad
  obtain ⟨cr, HCR⟩ : ∃ cr, Hid (lowM x5 1000 = cr) := ⟨_, rfl⟩
  have dcr := lowM_bd x5 1000 (by omega)
  rw [HCR.out] at dcr
  obtain ⟨m0, m1⟩ := dcr
  rw [Hb.out, Hp.out, Hs.out, ← HW1.out]
  rw [← HW1.out] at S1 G1
  have hin := in_of b0 b1 p0 p1 s0 s1
  clear HW1 Hla la0 la1 Hlb lb0 lb1 Hlc lc0 lc1 Hb Hp
  refine (low_any x4 40 (by omega) (by omega) _).mono ?_
  rw [HBAD.out]
  rintro e w' ⟨rfl, rfl⟩
  go_wp2_with fail
  refine (low_any x5 1000 (by omega) (by omega) _).mono ?_
  rw [HCR.out]
  rintro e w' ⟨rfl, rfl⟩
  obtain ⟨v0, v1, v2, _⟩ := G1.out
  dsimp only at v0 v1 v2
  go_wp2_with fail
  clear HBAD HCR v0 v1 v2
  have ha := area_bd hin
  have he := each_in hin
  have hk := check_in hin
  have hof := ofG_in hin
  dsimp only at ha he hof
  obtain ⟨P, HP⟩ : ∃ P, Hid (b * p = P) := ⟨_, rfl⟩
  obtain ⟨e, HE⟩ : ∃ e, Hid (eachI s = e) := ⟨_, rfl⟩
  obtain ⟨k, HK⟩ : ∃ k, Hid (checkG ⟨b, p, s⟩ = k) := ⟨_, rfl⟩
  rw [HP.out] at ha
  rw [HE.out] at he
  rw [HK.out] at hk
  rw [HP.out, HE.out, HK.out] at hof
  obtain ⟨ha0, ha1⟩ := ha
  obtain ⟨he0, he1⟩ := he
  obtain ⟨hk0, hk1⟩ := hk
  obtain ⟨sp, HSP⟩ : ∃ sp, Hid (2 * k + 5 = sp) := ⟨_, rfl⟩
  obtain ⟨r, HR⟩ : ∃ r, Hid (b - sp = r) := ⟨_, rfl⟩
  obtain ⟨mo, HMO⟩ : ∃ mo, Hid (8 * P + 200 = mo) := ⟨_, rfl⟩
  rw [HSP.out, HR.out, HMO.out] at hof
  have hr0 : -200 ≤ r := by have := HR.out; have := HSP.out; omega
  have hr1 : r ≤ 25 := by have := HR.out; have := HSP.out; omega
  have hroom : (ofG ⟨b, p, s⟩).room = r := by rw [hof]
  have hroom3 := room_in hin
  rw [hroom] at hroom3
  have hm := mayG_yes hin
  have hl0 := limit_may hm n0
  have hl1 := limit_may hm (bad := bad + 1) (by omega)
  rw [hroom] at hl0 hl1
  dsimp only at hl0 hl1
  have hs0 := spread_next (g := ⟨b, p, s⟩) m0
  have hs1 := spread_less (g := ⟨b, p, s⟩) m0
  obtain ⟨sc, HSC⟩ : ∃ sc, Hid (spreadG ⟨b, p, s⟩ cr = sc) := ⟨_, rfl⟩
  obtain ⟨sz, HSZ⟩ : ∃ sz, Hid (spreadG ⟨b, p, s⟩ 0 = sz) := ⟨_, rfl⟩
  have sc0 : 0 ≤ sc := by rw [← HSC.out]; unfold spreadG; dsimp only; omega
  have sc1 : sc ≤ 5000 := by rw [← HSC.out]; unfold spreadG; dsimp only; omega
  rw [HSC.out] at hs0
  rw [HSZ.out] at hs1
  have ho0 : inG ⟨15, p, s⟩ = false := inG_no (by dsimp only; omega)
  have ho1 : inG ⟨b, p, 127⟩ = false := inG_no (by dsimp only; omega)
  have hf0 := ofG_out ho0
  have hf1 := ofG_out ho1
  have hm0 : mayG ⟨15, p, s⟩ = false := decide_eq_false (by rw [hf0]; simp)
  have hm1 : mayG ⟨b, p, 127⟩ = false := decide_eq_false (by rw [hf1]; simp)
  have hl2 := limit_not hm1 0
  have hpg : pageG ⟨15, p, s⟩ 0 0 = -1 := if_neg (by rw [hm0]; simp)
  obtain ⟨A, HA⟩ : ∃ A, Hid (limitG ⟨b, p, s⟩ bad = A) := ⟨_, rfl⟩
  obtain ⟨B, HB⟩ : ∃ B, Hid (limitG ⟨b, p, s⟩ (bad + 1) = B) := ⟨_, rfl⟩
  have HAB : Hid ((bad < r → A - B = p ∧ 1 ≤ A ∧ A ≤ 200 ∧ 0 ≤ B) ∧ (r ≤ bad → A = 0 ∧ B = 0)) := by
    rw [HA.out] at hl0
    rw [HB.out] at hl1
    refine ⟨fun h => ?_, fun h => ?_⟩
    · rw [show max (r - bad) 0 = r - bad by omega] at hl0
      rw [show max (r - (bad + 1)) 0 = r - bad - 1 by omega, Int.sub_mul, ← hl0] at hl1
      have h1 : 1 * p ≤ (r - bad) * p := Int.mul_le_mul_of_nonneg_right (by omega) (by omega)
      have h2 : (r - bad) * p ≤ 25 * p := Int.mul_le_mul_of_nonneg_right (by omega) (by omega)
      omega
    · rw [show max (r - bad) 0 = 0 by omega] at hl0
      rw [show max (r - (bad + 1)) 0 = 0 by omega] at hl1
      simp at hl0 hl1
      exact ⟨hl0, hl1⟩
  obtain ⟨bp, HBP⟩ : ∃ bp, Hid (bad + 1 = bp) := ⟨_, rfl⟩
  obtain ⟨cp, HCP⟩ : ∃ cp, Hid (cr + 1 = cp) := ⟨_, rfl⟩
  obtain ⟨cm, HCM⟩ : ∃ cm, Hid (-cr = cm) := ⟨_, rfl⟩
  have hbp := HBP.out
  have hcp := HCP.out
  have hcm := HCM.out
  rw [hbp] at HB
  rw [hcp] at hs0
  rw [hcm] at hs1
  have cA := Lib.hid (fun W => limit_any ⟨b, p, s⟩ bad W (by omega))
  have cB := Lib.hid (fun W => limit_any ⟨b, p, s⟩ bp W (by omega))
  have cS0 := Lib.hid (fun W => spread_any ⟨b, p, s⟩ cp W (by dsimp only; omega) (by dsimp only; omega) (by omega))
  have cS1 := Lib.hid (fun W => spread_any ⟨b, p, s⟩ cr W (by dsimp only; omega) (by dsimp only; omega) (by omega))
  have cS2 := Lib.hid (fun W => spread_any ⟨b, p, s⟩ cm W (by dsimp only; omega) (by dsimp only; omega) (by omega))
  have cS3 := Lib.hid (fun W => spread_any ⟨b, p, s⟩ 0 W (by dsimp only; omega) (by dsimp only; omega) (by omega))
  have cF0 := Lib.hid (fun W => of_any ⟨15, p, s⟩ W)
  have cF1 := Lib.hid (fun W => of_any ⟨b, p, 127⟩ W)
  have cM0 := Lib.hid (fun W => may_any ⟨15, p, s⟩ W)
  have cL1 := Lib.hid (fun W => limit_any ⟨b, p, 127⟩ 0 W (by omega))
  have cP0 := Lib.hid (fun W => page_any ⟨15, p, s⟩ 0 0 W)
  rw [HA.out] at cA
  rw [HB.out] at cB
  rw [hs0] at cS0
  rw [HSC.out] at cS1
  rw [hs1] at cS2
  rw [HSZ.out] at cS3
  rw [hf0] at cF0
  rw [hf1] at cF1
  rw [hm0] at cM0
  rw [hl2] at cL1
  rw [hpg] at cP0
  unfold geoV at cA cB cS0 cS1 cS2 cS3 cF0 cF1 cM0 cL1 cP0
  unfold numsV at cF0 cF1
  dsimp only at cA cB cS0 cS1 cS2 cS3 cF0 cF1 cM0 cL1 cP0
  have hz6 := run_eql_same 0 0 0 0 0 0
  clear hs0 hs1 hf0 hf1 hm0 hm1 hl2 hpg hl0 hl1 hroom hm ho0 ho1 HA HB HSC HSZ HP HE HK HSP HR HMO
  have cO := Lib.hid (fun W => of_any ⟨b, p, s⟩ W)
  rw [hof] at cO
  unfold geoV numsV at cO
  dsimp only at cO
  refine (cO.out _).mono ?_
  rintro e' WX ⟨rfl, hbx⟩
  have SX := Lib.hid (below_chain S1.out hbx.out)
  have GX := Lib.hid (G1.out.since hbx.out)
  have S3 := Lib.hid (since_alloc SX.out (.cells #[.int .i64 P, .int .i64 e, .int .i64 k, .int .i64 sp, .int .i64 r, .int .i64 mo] 28))
  have G3 := Lib.hid (GX.out.since (below_alloc_self WX (.cells #[.int .i64 P, .int .i64 e, .int .i64 k, .int .i64 sp, .int .i64 r, .int .i64 mo] 28)))
  have N3 := Lib.hid (RowC.new WX #[.int .i64 P, .int .i64 e, .int .i64 k, .int .i64 sp, .int .i64 r, .int .i64 mo] 28)
  obtain ⟨W3, HWN⟩ : ∃ WN, Hid (WN = WX.alloc (.cells #[.int .i64 P, .int .i64 e, .int .i64 k, .int .i64 sp, .int .i64 r, .int .i64 mo] 28)) := ⟨_, rfl⟩
  obtain ⟨gn, HGN⟩ : ∃ gn, Hid (gn = WX.heap.size) := ⟨_, rfl⟩
  obtain ⟨q0, q1, q2, _⟩ := G3.out
  dsimp only at q0 q1 q2
  go_wp2_with fail
  rw [← HWN.out] at S3 G3 N3 q0 q1 q2 ⊢
  rw [← HGN.out] at N3 ⊢
  clear cO hof HWN HGN S1 G1 SX GX hbx q0 q1 q2
  obtain ⟨q0, q1, q2, _⟩ := G3.out
  dsimp only at q0 q1 q2
  have c4 : W3.cell? ⟨gn, 4, none⟩ = some (.int .i64 r) := N3.out.cell 4
  have k0 := cell_regrown q0
  have k1 := cell_regrown q1
  have k2 := cell_regrown q2
  have t1 := Lib.hid (fun (dd : Nat) (os : Array Obj) => quiet_saysv (cA.out (grow (redrawn W3 dd) os)))
  have t2 := Lib.hid (fun (dd : Nat) (os : Array Obj) => quiet_saysv (cB.out (grow (redrawn W3 dd) os)))
  refine wp_region_quiet_below (by kernel_rfl) (by kernel_rfl) ?_
  repeat (go_big_quiet_step (first
    | (go_at_call_of 16 (Value.int IntKind.i64 bad); exact t1.out _ _)
    | (go_at_call_of 16 (Value.int IntKind.i64 bp); exact t2.out _ _)))
  refine wpQuiet_nil ?_
  intro W4 hw'
  obtain ⟨⟨dq, osq⟩, hw''⟩ := hw'
  have T4 : Hid (Below W3.heap.size W3 W4) := by rw [hw'']; exact below_regrown W3 dq osq
  have S4 := Lib.hid (below_chain S3.out T4.out)
  have G4 := Lib.hid (G3.out.since T4.out)
  have N4 := Lib.hid (N3.out.since T4.out)
  clear hw'' k0 k1 k2 t1 t2 q0 q1 q2 c4 cA cB T4 S3 G3 N3
  obtain ⟨q0, q1, q2, _⟩ := G4.out
  dsimp only at q0 q1 q2
  have c4 : W4.cell? ⟨gn, 4, none⟩ = some (.int .i64 r) := N4.out.cell 4
  by_cases hbr : bad < r
  · obtain ⟨h1, h2, h3, h4⟩ := HAB.out.1 hbr
    have hz : (A == 0) = false := by simp; omega
    have hrb : decide (r ≤ bad) = false := decide_eq_false (by omega)
    go_wp2_with fail
    have GD := Lib.hid (G4.out.since (Below.refl _ _).drew)
    have SD := Lib.hid (S4.out.drew)
    have ND := Lib.hid (N4.out.since (Below.refl _ _).drew)
    clear q0 q1 q2 c4
    refine region_of_boxes (by kernel_rfl) [some (.agg #[.int .i64 b, .int .i64 p, .int .i64 s]), some (.agg #[.int .i64 b, .int .i64 p, .int .i64 s]), none, none, none, none] [⟨16, 2, 4, #[.int .i64 0, .int .i64 0, .int .i64 0], #[.int .i64 b, .int .i64 p, .int .i64 s], 23⟩, ⟨17, 3, 5, #[.int .i64 0, .int .i64 0, .int .i64 0], #[.int .i64 b, .int .i64 p, .int .i64 s], 23⟩] (by kernel_rfl) (by kernel_rfl) (by intro x hx y hy e; simp at hx hy; rcases hx with rfl | rfl <;> rcases hy with rfl | rfl <;> first | rfl | (simp at e)) ?_ ?_
    · refine StepsB.cons ?_ (StepsB.cons ?_ (StepsB.cons ?_ (StepsB.cons ?_ (StepsB.cons ?_ (StepsB.cons ?_ (StepsB.nil))))))
      · intro listed a W H hw hl hd
        have t11 : a.tmps.getD 11 undef = .pointer (some ⟨w.heap.size, 0, none⟩) := (H.old 11 (by kernel_rfl)).trans rfl
        exact step2_value (R := fun _ _ _ => True) (F := fun i v w' => Known [some (.agg #[.int .i64 b, .int .i64 p, .int .i64 s]), some (.agg #[.int .i64 b, .int .i64 p, .int .i64 s]), none, none, none, none] i v ∧ Mv ([⟨16, 2, 4, #[.int .i64 0, .int .i64 0, .int .i64 0], #[.int .i64 b, .int .i64 p, .int .i64 s], 23⟩, ⟨17, 3, 5, #[.int .i64 0, .int .i64 0, .int .i64 0], #[.int .i64 b, .int .i64 p, .int .i64 s], 23⟩] : List Box) i a v W w') (i := 0) rfl rfl (run_op_load rfl t11 (run_load_geo (GD.out.since hw.below))) trivial ⟨rfl, (mv_refl (by kernel_rfl))⟩
      · intro listed a W H hw hl hd
        have t11 : a.tmps.getD 11 undef = .pointer (some ⟨w.heap.size, 0, none⟩) := (H.old 11 (by kernel_rfl)).trans rfl
        exact step2_value (R := fun _ _ _ => True) (F := fun i v w' => Known [some (.agg #[.int .i64 b, .int .i64 p, .int .i64 s]), some (.agg #[.int .i64 b, .int .i64 p, .int .i64 s]), none, none, none, none] i v ∧ Mv ([⟨16, 2, 4, #[.int .i64 0, .int .i64 0, .int .i64 0], #[.int .i64 b, .int .i64 p, .int .i64 s], 23⟩, ⟨17, 3, 5, #[.int .i64 0, .int .i64 0, .int .i64 0], #[.int .i64 b, .int .i64 p, .int .i64 s], 23⟩] : List Box) i a v W w') (i := 1) rfl rfl (run_op_load rfl t11 (run_load_geo (GD.out.since hw.below))) trivial ⟨rfl, (mv_refl (by kernel_rfl))⟩
      · intro listed a W H hw hl hd
        exact step2_value (R := fun _ _ _ => True) (F := fun i v w' => Known [some (.agg #[.int .i64 b, .int .i64 p, .int .i64 s]), some (.agg #[.int .i64 b, .int .i64 p, .int .i64 s]), none, none, none, none] i v ∧ Mv ([⟨16, 2, 4, #[.int .i64 0, .int .i64 0, .int .i64 0], #[.int .i64 b, .int .i64 p, .int .i64 s], 23⟩, ⟨17, 3, 5, #[.int .i64 0, .int .i64 0, .int .i64 0], #[.int .i64 b, .int .i64 p, .int .i64 s], 23⟩] : List Box) i a v W w') (i := 2) rfl rfl (run_op_alloc rfl (run_alloc_geo W)) trivial ⟨trivial, mv_make (by kernel_rfl) (by intro x hx e; simp at hx; rcases hx with rfl | rfl <;> first | exact ⟨rfl, rfl⟩ | (simp at e)) (later_alloc _ _) (Nat.le_refl _) (RowC.new W _ _)⟩
      · intro listed a W H hw hl hd
        exact step2_value (R := fun _ _ _ => True) (F := fun i v w' => Known [some (.agg #[.int .i64 b, .int .i64 p, .int .i64 s]), some (.agg #[.int .i64 b, .int .i64 p, .int .i64 s]), none, none, none, none] i v ∧ Mv ([⟨16, 2, 4, #[.int .i64 0, .int .i64 0, .int .i64 0], #[.int .i64 b, .int .i64 p, .int .i64 s], 23⟩, ⟨17, 3, 5, #[.int .i64 0, .int .i64 0, .int .i64 0], #[.int .i64 b, .int .i64 p, .int .i64 s], 23⟩] : List Box) i a v W w') (i := 3) rfl rfl (run_op_alloc rfl (run_alloc_geo W)) trivial ⟨trivial, mv_make (by kernel_rfl) (by intro x hx e; simp at hx; rcases hx with rfl | rfl <;> first | exact ⟨rfl, rfl⟩ | (simp at e)) (later_alloc _ _) (Nat.le_refl _) (RowC.new W _ _)⟩
      · intro listed a W H hw hl hd
        have t47 : a.tmps.getD 47 undef = .agg #[.int .i64 b, .int .i64 p, .int .i64 s] := H.get 0 47 (by kernel_rfl) (dep_of hd 0 (by kernel_rfl)) (fun _ e => by cases e)
        obtain ⟨gb, e0, _, r⟩ := hw.made (⟨16, 2, 4, #[.int .i64 0, .int .i64 0, .int .i64 0], #[.int .i64 b, .int .i64 p, .int .i64 s], 23⟩ : Box) (by simp) (dep_of hd 2 (by kernel_rfl))
        have hlf : listed.getD 4 false = false := by
          have := H.len
          by_cases hh : 4 < listed.size
          · simp [hh] at hl ⊢; exact hl
          · simp [hh]
        rw [show listed.getD ((⟨16, 2, 4, #[.int .i64 0, .int .i64 0, .int .i64 0], #[.int .i64 b, .int .i64 p, .int .i64 s], 23⟩ : Box) : Box).i1 false = false from hlf] at r
        exact step2_done (R := fun _ _ _ => True) (F := fun i v w' => Known [some (.agg #[.int .i64 b, .int .i64 p, .int .i64 s]), some (.agg #[.int .i64 b, .int .i64 p, .int .i64 s]), none, none, none, none] i v ∧ Mv ([⟨16, 2, 4, #[.int .i64 0, .int .i64 0, .int .i64 0], #[.int .i64 b, .int .i64 p, .int .i64 s], 23⟩, ⟨17, 3, 5, #[.int .i64 0, .int .i64 0, .int .i64 0], #[.int .i64 b, .int .i64 p, .int .i64 s], 23⟩] : List Box) i a v W w') (i := 4) rfl rfl rfl (run_op_store rfl e0 t47 (run_store_geo r ⟨b, p, s⟩)) trivial ⟨trivial, mv_write (x := (⟨16, 2, 4, #[.int .i64 0, .int .i64 0, .int .i64 0], #[.int .i64 b, .int .i64 p, .int .i64 s], 23⟩ : Box)) (by simp) (by kernel_rfl) rfl (by intro y hy e; simp at hy; rcases hy with rfl | rfl <;> first | rfl | (simp at e)) e0 (putG_else W gb ⟨b, p, s⟩) (row_putG r rfl ⟨b, p, s⟩)⟩
      · intro listed a W H hw hl hd
        have t48 : a.tmps.getD 48 undef = .agg #[.int .i64 b, .int .i64 p, .int .i64 s] := H.get 1 48 (by kernel_rfl) (dep_of hd 1 (by kernel_rfl)) (fun _ e => by cases e)
        obtain ⟨gb, e0, _, r⟩ := hw.made (⟨17, 3, 5, #[.int .i64 0, .int .i64 0, .int .i64 0], #[.int .i64 b, .int .i64 p, .int .i64 s], 23⟩ : Box) (by simp) (dep_of hd 3 (by kernel_rfl))
        have hlf : listed.getD 5 false = false := by
          have := H.len
          by_cases hh : 5 < listed.size
          · simp [hh] at hl ⊢; exact hl
          · simp [hh]
        rw [show listed.getD ((⟨17, 3, 5, #[.int .i64 0, .int .i64 0, .int .i64 0], #[.int .i64 b, .int .i64 p, .int .i64 s], 23⟩ : Box) : Box).i1 false = false from hlf] at r
        exact step2_done (R := fun _ _ _ => True) (F := fun i v w' => Known [some (.agg #[.int .i64 b, .int .i64 p, .int .i64 s]), some (.agg #[.int .i64 b, .int .i64 p, .int .i64 s]), none, none, none, none] i v ∧ Mv ([⟨16, 2, 4, #[.int .i64 0, .int .i64 0, .int .i64 0], #[.int .i64 b, .int .i64 p, .int .i64 s], 23⟩, ⟨17, 3, 5, #[.int .i64 0, .int .i64 0, .int .i64 0], #[.int .i64 b, .int .i64 p, .int .i64 s], 23⟩] : List Box) i a v W w') (i := 5) rfl rfl rfl (run_op_store rfl e0 t48 (run_store_geo r ⟨b, p, s⟩)) trivial ⟨trivial, mv_write (x := (⟨17, 3, 5, #[.int .i64 0, .int .i64 0, .int .i64 0], #[.int .i64 b, .int .i64 p, .int .i64 s], 23⟩ : Box)) (by simp) (by kernel_rfl) rfl (by intro y hy e; simp at hy; rcases hy with rfl | rfl <;> first | rfl | (simp at e)) e0 (putG_else W gb ⟨b, p, s⟩) (row_putG r rfl ⟨b, p, s⟩)⟩
    · intro a WC listed hdef hsz hinv hall0 hall hact
      obtain ⟨gb16, e16, l16, hr16⟩ := hinv.made (⟨16, 2, 4, #[.int .i64 0, .int .i64 0, .int .i64 0], #[.int .i64 b, .int .i64 p, .int .i64 s], 23⟩ : Box) (by simp) (hall0 2 (by decide))
      rw [show listed.getD (⟨16, 2, 4, #[.int .i64 0, .int .i64 0, .int .i64 0], #[.int .i64 b, .int .i64 p, .int .i64 s], 23⟩ : Box).i1 false = true from hall0 4 (by decide)] at hr16
      have HR16 : Hid (RowC WC gb16 #[.int .i64 b, .int .i64 p, .int .i64 s] 23) := hr16
      obtain ⟨gb17, e17, l17, hr17⟩ := hinv.made (⟨17, 3, 5, #[.int .i64 0, .int .i64 0, .int .i64 0], #[.int .i64 b, .int .i64 p, .int .i64 s], 23⟩ : Box) (by simp) (hall0 3 (by decide))
      rw [show listed.getD (⟨17, 3, 5, #[.int .i64 0, .int .i64 0, .int .i64 0], #[.int .i64 b, .int .i64 p, .int .i64 s], 23⟩ : Box).i1 false = true from hall0 5 (by decide)] at hr17
      have HR17 : Hid (RowC WC gb17 #[.int .i64 b, .int .i64 p, .int .i64 s] 23) := hr17
      have HN16_17 : ¬ gb16 = gb17 := fun e => hinv.apart (⟨16, 2, 4, #[.int .i64 0, .int .i64 0, .int .i64 0], #[.int .i64 b, .int .i64 p, .int .i64 s], 23⟩ : Box) (by simp) (⟨17, 3, 5, #[.int .i64 0, .int .i64 0, .int .i64 0], #[.int .i64 b, .int .i64 p, .int .i64 s], 23⟩ : Box) (by simp) (by simp) (hall0 2 (by decide)) (hall0 3 (by decide)) (by rw [e16, e17, e])
      have HBL := Lib.hid hinv.below
      obtain ⟨u, hu⟩ : ∃ u : Nat → Value, ∀ k, a.tmps.getD k undef = u k := ⟨_, fun _ => rfl⟩
      rw [hu] at e16 e17
      dsimp only at e16 e17
      simp only [hu] at hact
      have hact' : a = ([47, 48, 16, 17] : List Nat).foldl (fun b k => b.put (some k) (u k)) _ := hact
      simp only [List.foldl] at hact'
      simp only [Act.put, List.setIfInBounds_toArray, List.set_cons_succ, List.set_cons_zero] at hact'
      rw [e16, e17] at hact'
      have HAC := Lib.hid hact'
      have HL16 : Hid (W4.drew.heap.size ≤ gb16) := l16
      have HL17 : Hid (W4.drew.heap.size ≤ gb17) := l17
      clear hu hact hact' hall hall0 hdef hsz hinv e16 l16 hr16 e17 l17 hr17
      have SC := Lib.hid (below_chain SD.out HBL.out)
      have GC := Lib.hid (GD.out.since HBL.out)
      have NC := Lib.hid (ND.out.since HBL.out)
      have LW : Hid (w.heap.size < W4.drew.heap.size) := GD.out.lt
      have LN : Hid (gn < W4.drew.heap.size) := ND.out.lt
      have hg16 : w.heap.size ≤ gb16 := by have := LW.out; have := HL16.out; omega
      have hg17 : w.heap.size ≤ gb17 := by have := LW.out; have := HL17.out; omega
      have ne16 : ¬ w.heap.size = gb16 := by have := LW.out; have := HL16.out; omega
      have ne17 : ¬ w.heap.size = gb17 := by have := LW.out; have := HL17.out; omega
      have nn16 : ¬ gn = gb16 := by have := LN.out; have := HL16.out; omega
      have nn17 : ¬ gn = gb17 := by have := LN.out; have := HL17.out; omega
      clear SD GD ND S4 G4 N4 HBL LW LN HL16 HL17
      have w0 := HR16.out.cell 0
      have w1 := HR16.out.free 0
      have w2 := HR17.out.cell 2
      have w3 := HR17.out.free 2
      simp at w0 w2
      rw [HAC.out]
      go_wp2_with fail
      have SE := Lib.hid ((SC.out.setCell (p := ⟨gb16, 0, none⟩) hg16 (.int .i64 15)).setCell (p := ⟨gb17, 2, none⟩) hg17 (.int .i64 127))
      have GE := Lib.hid ((GC.out.other ne16 0 (.int .i64 15)).other ne17 2 (.int .i64 127))
      have NE := Lib.hid ((NC.out.other nn16 0 (.int .i64 15)).other nn17 2 (.int .i64 127))
      have A16 := Lib.hid (((HR16.out.put 0 (.int .i64 15)).other HN16_17 2 (.int .i64 127)))
      have A17 := Lib.hid (((HR17.out.other (fun e => HN16_17 e.symm) 0 (.int .i64 15)).put 2 (.int .i64 127)))
      obtain ⟨WE, HWE⟩ : ∃ WE, Hid (WE = (WC.setCell ⟨gb16, 0, none⟩ (.int .i64 15)).setCell ⟨gb17, 2, none⟩ (.int .i64 127)) := ⟨_, rfl⟩
      rw [← HWE.out] at SE GE NE A16 A17 ⊢
      clear HWE SC GC NC HR16 HR17 w0 w1 w2 w3 HAC
      obtain ⟨q0, q1, q2, _⟩ := GE.out
      dsimp only at q0 q1 q2
      have c4 : WE.cell? ⟨gn, 4, none⟩ = some (.int .i64 r) := NE.out.cell 4
      have i0 : WE.cell? ⟨gb16, 0, none⟩ = some (.int .i64 15) := A16.out.cell 0
      have i1 : WE.cell? ⟨gb16, 1, none⟩ = some (.int .i64 p) := A16.out.cell 1
      have i2 : WE.cell? ⟨gb16, 2, none⟩ = some (.int .i64 s) := A16.out.cell 2
      have j0 : WE.cell? ⟨gb17, 0, none⟩ = some (.int .i64 b) := A17.out.cell 0
      have j1 : WE.cell? ⟨gb17, 1, none⟩ = some (.int .i64 p) := A17.out.cell 1
      have j2 : WE.cell? ⟨gb17, 2, none⟩ = some (.int .i64 127) := A17.out.cell 2
      have k0 := cell_regrown q0
      have k1 := cell_regrown q1
      have k2 := cell_regrown q2
      have k3 := cell_regrown c4
      have k4 := cell_regrown i0
      have k5 := cell_regrown i1
      have k6 := cell_regrown i2
      have k7 := cell_regrown j0
      have k8 := cell_regrown j1
      have k9 := cell_regrown j2
      have t1 := Lib.hid (fun (dd : Nat) (os : Array Obj) => quiet_saysv (cS0.out (grow (redrawn WE dd) os)))
      have t2 := Lib.hid (fun (dd : Nat) (os : Array Obj) => quiet_saysv (cS1.out (grow (redrawn WE dd) os)))
      have t3 := Lib.hid (fun (dd : Nat) (os : Array Obj) => quiet_saysv (cS2.out (grow (redrawn WE dd) os)))
      have t4 := Lib.hid (fun (dd : Nat) (os : Array Obj) => quiet_saysv (cS3.out (grow (redrawn WE dd) os)))
      have t5 := Lib.hid (fun (dd : Nat) (os : Array Obj) => quiet_saysv (cF0.out (grow (redrawn WE dd) os)))
      have t6 := Lib.hid (fun (dd : Nat) (os : Array Obj) => quiet_saysv (cF1.out (grow (redrawn WE dd) os)))
      have t7 := Lib.hid (fun (dd : Nat) (os : Array Obj) => quiet_says (cM0.out (grow (redrawn WE dd) os)))
      have t8 := Lib.hid (fun (dd : Nat) (os : Array Obj) => quiet_saysv (cL1.out (grow (redrawn WE dd) os)))
      have t9 := Lib.hid (fun (dd : Nat) (os : Array Obj) => quiet_saysv (cP0.out (grow (redrawn WE dd) os)))
      have t10 := Lib.hid (fun (dd : Nat) (os : Array Obj) => quiet_says (awake_any (grow (redrawn WE dd) os)))
      simp only [List.append_eq, List.cons_append, List.nil_append]
      refine wp_region_quiet_below (by kernel_rfl) (by kernel_rfl) ?_
      repeat (go_big_quiet_step (first
        | (go_at_call 9; exact t10.out _ _)
        | (go_at_call_of 18 (Value.int IntKind.i64 cp); exact t1.out _ _)
        | (go_at_call_of 18 (Value.int IntKind.i64 cr); exact t2.out _ _)
        | (go_at_call_of 18 (Value.int IntKind.i64 0); exact t4.out _ _)
        | (go_at_call_of 18 (Value.int IntKind.i64 cm); exact t3.out _ _)
        | (go_at_call_of 12 (Value.agg #[Value.int IntKind.i64 15, Value.int IntKind.i64 p, Value.int IntKind.i64 s]); exact t5.out _ _)
        | (go_at_call 12; exact t6.out _ _)
        | (go_at_call 14; exact t7.out _ _)
        | (go_at_call 16; exact t8.out _ _)
        | (go_at_call 20; exact t9.out _ _)))
      refine wpQuiet_nil ?_
      intro W9 hw'
      obtain ⟨⟨dq, osq⟩, hw''⟩ := hw'
      have S9 : Hid (Below w.heap.size w W9) := by rw [hw'']; exact below_chain SE.out (below_regrown WE dq osq)
      clear hw'' k0 k1 k2 k3 k4 k5 k6 k7 k8 k9 t1 t2 t3 t4 t5 t6 t7 t8 t9 t10 q0 q1 q2 c4 i0 i1 i2 j0 j1 j2
      go_wp2_with fail
      go_ret
      exact ⟨rfl, S9⟩
  · obtain ⟨h1, h2⟩ := HAB.out.2 (by omega)
    subst h1 h2
    have hrb : decide (r ≤ bad) = true := decide_eq_true (by omega)
    go_wp2_with fail
    have GD := Lib.hid (G4.out.since (Below.refl _ _).drew)
    have SD := Lib.hid (S4.out.drew)
    have ND := Lib.hid (N4.out.since (Below.refl _ _).drew)
    clear q0 q1 q2 c4
    refine region_of_boxes (by kernel_rfl) [some (.agg #[.int .i64 b, .int .i64 p, .int .i64 s]), some (.agg #[.int .i64 b, .int .i64 p, .int .i64 s]), none, none, none, none] [⟨16, 2, 4, #[.int .i64 0, .int .i64 0, .int .i64 0], #[.int .i64 b, .int .i64 p, .int .i64 s], 23⟩, ⟨17, 3, 5, #[.int .i64 0, .int .i64 0, .int .i64 0], #[.int .i64 b, .int .i64 p, .int .i64 s], 23⟩] (by kernel_rfl) (by kernel_rfl) (by intro x hx y hy e; simp at hx hy; rcases hx with rfl | rfl <;> rcases hy with rfl | rfl <;> first | rfl | (simp at e)) ?_ ?_
    · refine StepsB.cons ?_ (StepsB.cons ?_ (StepsB.cons ?_ (StepsB.cons ?_ (StepsB.cons ?_ (StepsB.cons ?_ (StepsB.nil))))))
      · intro listed a W H hw hl hd
        have t11 : a.tmps.getD 11 undef = .pointer (some ⟨w.heap.size, 0, none⟩) := (H.old 11 (by kernel_rfl)).trans rfl
        exact step2_value (R := fun _ _ _ => True) (F := fun i v w' => Known [some (.agg #[.int .i64 b, .int .i64 p, .int .i64 s]), some (.agg #[.int .i64 b, .int .i64 p, .int .i64 s]), none, none, none, none] i v ∧ Mv ([⟨16, 2, 4, #[.int .i64 0, .int .i64 0, .int .i64 0], #[.int .i64 b, .int .i64 p, .int .i64 s], 23⟩, ⟨17, 3, 5, #[.int .i64 0, .int .i64 0, .int .i64 0], #[.int .i64 b, .int .i64 p, .int .i64 s], 23⟩] : List Box) i a v W w') (i := 0) rfl rfl (run_op_load rfl t11 (run_load_geo (GD.out.since hw.below))) trivial ⟨rfl, (mv_refl (by kernel_rfl))⟩
      · intro listed a W H hw hl hd
        have t11 : a.tmps.getD 11 undef = .pointer (some ⟨w.heap.size, 0, none⟩) := (H.old 11 (by kernel_rfl)).trans rfl
        exact step2_value (R := fun _ _ _ => True) (F := fun i v w' => Known [some (.agg #[.int .i64 b, .int .i64 p, .int .i64 s]), some (.agg #[.int .i64 b, .int .i64 p, .int .i64 s]), none, none, none, none] i v ∧ Mv ([⟨16, 2, 4, #[.int .i64 0, .int .i64 0, .int .i64 0], #[.int .i64 b, .int .i64 p, .int .i64 s], 23⟩, ⟨17, 3, 5, #[.int .i64 0, .int .i64 0, .int .i64 0], #[.int .i64 b, .int .i64 p, .int .i64 s], 23⟩] : List Box) i a v W w') (i := 1) rfl rfl (run_op_load rfl t11 (run_load_geo (GD.out.since hw.below))) trivial ⟨rfl, (mv_refl (by kernel_rfl))⟩
      · intro listed a W H hw hl hd
        exact step2_value (R := fun _ _ _ => True) (F := fun i v w' => Known [some (.agg #[.int .i64 b, .int .i64 p, .int .i64 s]), some (.agg #[.int .i64 b, .int .i64 p, .int .i64 s]), none, none, none, none] i v ∧ Mv ([⟨16, 2, 4, #[.int .i64 0, .int .i64 0, .int .i64 0], #[.int .i64 b, .int .i64 p, .int .i64 s], 23⟩, ⟨17, 3, 5, #[.int .i64 0, .int .i64 0, .int .i64 0], #[.int .i64 b, .int .i64 p, .int .i64 s], 23⟩] : List Box) i a v W w') (i := 2) rfl rfl (run_op_alloc rfl (run_alloc_geo W)) trivial ⟨trivial, mv_make (by kernel_rfl) (by intro x hx e; simp at hx; rcases hx with rfl | rfl <;> first | exact ⟨rfl, rfl⟩ | (simp at e)) (later_alloc _ _) (Nat.le_refl _) (RowC.new W _ _)⟩
      · intro listed a W H hw hl hd
        exact step2_value (R := fun _ _ _ => True) (F := fun i v w' => Known [some (.agg #[.int .i64 b, .int .i64 p, .int .i64 s]), some (.agg #[.int .i64 b, .int .i64 p, .int .i64 s]), none, none, none, none] i v ∧ Mv ([⟨16, 2, 4, #[.int .i64 0, .int .i64 0, .int .i64 0], #[.int .i64 b, .int .i64 p, .int .i64 s], 23⟩, ⟨17, 3, 5, #[.int .i64 0, .int .i64 0, .int .i64 0], #[.int .i64 b, .int .i64 p, .int .i64 s], 23⟩] : List Box) i a v W w') (i := 3) rfl rfl (run_op_alloc rfl (run_alloc_geo W)) trivial ⟨trivial, mv_make (by kernel_rfl) (by intro x hx e; simp at hx; rcases hx with rfl | rfl <;> first | exact ⟨rfl, rfl⟩ | (simp at e)) (later_alloc _ _) (Nat.le_refl _) (RowC.new W _ _)⟩
      · intro listed a W H hw hl hd
        have t47 : a.tmps.getD 47 undef = .agg #[.int .i64 b, .int .i64 p, .int .i64 s] := H.get 0 47 (by kernel_rfl) (dep_of hd 0 (by kernel_rfl)) (fun _ e => by cases e)
        obtain ⟨gb, e0, _, r⟩ := hw.made (⟨16, 2, 4, #[.int .i64 0, .int .i64 0, .int .i64 0], #[.int .i64 b, .int .i64 p, .int .i64 s], 23⟩ : Box) (by simp) (dep_of hd 2 (by kernel_rfl))
        have hlf : listed.getD 4 false = false := by
          have := H.len
          by_cases hh : 4 < listed.size
          · simp [hh] at hl ⊢; exact hl
          · simp [hh]
        rw [show listed.getD ((⟨16, 2, 4, #[.int .i64 0, .int .i64 0, .int .i64 0], #[.int .i64 b, .int .i64 p, .int .i64 s], 23⟩ : Box) : Box).i1 false = false from hlf] at r
        exact step2_done (R := fun _ _ _ => True) (F := fun i v w' => Known [some (.agg #[.int .i64 b, .int .i64 p, .int .i64 s]), some (.agg #[.int .i64 b, .int .i64 p, .int .i64 s]), none, none, none, none] i v ∧ Mv ([⟨16, 2, 4, #[.int .i64 0, .int .i64 0, .int .i64 0], #[.int .i64 b, .int .i64 p, .int .i64 s], 23⟩, ⟨17, 3, 5, #[.int .i64 0, .int .i64 0, .int .i64 0], #[.int .i64 b, .int .i64 p, .int .i64 s], 23⟩] : List Box) i a v W w') (i := 4) rfl rfl rfl (run_op_store rfl e0 t47 (run_store_geo r ⟨b, p, s⟩)) trivial ⟨trivial, mv_write (x := (⟨16, 2, 4, #[.int .i64 0, .int .i64 0, .int .i64 0], #[.int .i64 b, .int .i64 p, .int .i64 s], 23⟩ : Box)) (by simp) (by kernel_rfl) rfl (by intro y hy e; simp at hy; rcases hy with rfl | rfl <;> first | rfl | (simp at e)) e0 (putG_else W gb ⟨b, p, s⟩) (row_putG r rfl ⟨b, p, s⟩)⟩
      · intro listed a W H hw hl hd
        have t48 : a.tmps.getD 48 undef = .agg #[.int .i64 b, .int .i64 p, .int .i64 s] := H.get 1 48 (by kernel_rfl) (dep_of hd 1 (by kernel_rfl)) (fun _ e => by cases e)
        obtain ⟨gb, e0, _, r⟩ := hw.made (⟨17, 3, 5, #[.int .i64 0, .int .i64 0, .int .i64 0], #[.int .i64 b, .int .i64 p, .int .i64 s], 23⟩ : Box) (by simp) (dep_of hd 3 (by kernel_rfl))
        have hlf : listed.getD 5 false = false := by
          have := H.len
          by_cases hh : 5 < listed.size
          · simp [hh] at hl ⊢; exact hl
          · simp [hh]
        rw [show listed.getD ((⟨17, 3, 5, #[.int .i64 0, .int .i64 0, .int .i64 0], #[.int .i64 b, .int .i64 p, .int .i64 s], 23⟩ : Box) : Box).i1 false = false from hlf] at r
        exact step2_done (R := fun _ _ _ => True) (F := fun i v w' => Known [some (.agg #[.int .i64 b, .int .i64 p, .int .i64 s]), some (.agg #[.int .i64 b, .int .i64 p, .int .i64 s]), none, none, none, none] i v ∧ Mv ([⟨16, 2, 4, #[.int .i64 0, .int .i64 0, .int .i64 0], #[.int .i64 b, .int .i64 p, .int .i64 s], 23⟩, ⟨17, 3, 5, #[.int .i64 0, .int .i64 0, .int .i64 0], #[.int .i64 b, .int .i64 p, .int .i64 s], 23⟩] : List Box) i a v W w') (i := 5) rfl rfl rfl (run_op_store rfl e0 t48 (run_store_geo r ⟨b, p, s⟩)) trivial ⟨trivial, mv_write (x := (⟨17, 3, 5, #[.int .i64 0, .int .i64 0, .int .i64 0], #[.int .i64 b, .int .i64 p, .int .i64 s], 23⟩ : Box)) (by simp) (by kernel_rfl) rfl (by intro y hy e; simp at hy; rcases hy with rfl | rfl <;> first | rfl | (simp at e)) e0 (putG_else W gb ⟨b, p, s⟩) (row_putG r rfl ⟨b, p, s⟩)⟩
    · intro a WC listed hdef hsz hinv hall0 hall hact
      obtain ⟨gb16, e16, l16, hr16⟩ := hinv.made (⟨16, 2, 4, #[.int .i64 0, .int .i64 0, .int .i64 0], #[.int .i64 b, .int .i64 p, .int .i64 s], 23⟩ : Box) (by simp) (hall0 2 (by decide))
      rw [show listed.getD (⟨16, 2, 4, #[.int .i64 0, .int .i64 0, .int .i64 0], #[.int .i64 b, .int .i64 p, .int .i64 s], 23⟩ : Box).i1 false = true from hall0 4 (by decide)] at hr16
      have HR16 : Hid (RowC WC gb16 #[.int .i64 b, .int .i64 p, .int .i64 s] 23) := hr16
      obtain ⟨gb17, e17, l17, hr17⟩ := hinv.made (⟨17, 3, 5, #[.int .i64 0, .int .i64 0, .int .i64 0], #[.int .i64 b, .int .i64 p, .int .i64 s], 23⟩ : Box) (by simp) (hall0 3 (by decide))
      rw [show listed.getD (⟨17, 3, 5, #[.int .i64 0, .int .i64 0, .int .i64 0], #[.int .i64 b, .int .i64 p, .int .i64 s], 23⟩ : Box).i1 false = true from hall0 5 (by decide)] at hr17
      have HR17 : Hid (RowC WC gb17 #[.int .i64 b, .int .i64 p, .int .i64 s] 23) := hr17
      have HN16_17 : ¬ gb16 = gb17 := fun e => hinv.apart (⟨16, 2, 4, #[.int .i64 0, .int .i64 0, .int .i64 0], #[.int .i64 b, .int .i64 p, .int .i64 s], 23⟩ : Box) (by simp) (⟨17, 3, 5, #[.int .i64 0, .int .i64 0, .int .i64 0], #[.int .i64 b, .int .i64 p, .int .i64 s], 23⟩ : Box) (by simp) (by simp) (hall0 2 (by decide)) (hall0 3 (by decide)) (by rw [e16, e17, e])
      have HBL := Lib.hid hinv.below
      obtain ⟨u, hu⟩ : ∃ u : Nat → Value, ∀ k, a.tmps.getD k undef = u k := ⟨_, fun _ => rfl⟩
      rw [hu] at e16 e17
      dsimp only at e16 e17
      simp only [hu] at hact
      have hact' : a = ([47, 48, 16, 17] : List Nat).foldl (fun b k => b.put (some k) (u k)) _ := hact
      simp only [List.foldl] at hact'
      simp only [Act.put, List.setIfInBounds_toArray, List.set_cons_succ, List.set_cons_zero] at hact'
      rw [e16, e17] at hact'
      have HAC := Lib.hid hact'
      have HL16 : Hid (W4.drew.heap.size ≤ gb16) := l16
      have HL17 : Hid (W4.drew.heap.size ≤ gb17) := l17
      clear hu hact hact' hall hall0 hdef hsz hinv e16 l16 hr16 e17 l17 hr17
      have SC := Lib.hid (below_chain SD.out HBL.out)
      have GC := Lib.hid (GD.out.since HBL.out)
      have NC := Lib.hid (ND.out.since HBL.out)
      have LW : Hid (w.heap.size < W4.drew.heap.size) := GD.out.lt
      have LN : Hid (gn < W4.drew.heap.size) := ND.out.lt
      have hg16 : w.heap.size ≤ gb16 := by have := LW.out; have := HL16.out; omega
      have hg17 : w.heap.size ≤ gb17 := by have := LW.out; have := HL17.out; omega
      have ne16 : ¬ w.heap.size = gb16 := by have := LW.out; have := HL16.out; omega
      have ne17 : ¬ w.heap.size = gb17 := by have := LW.out; have := HL17.out; omega
      have nn16 : ¬ gn = gb16 := by have := LN.out; have := HL16.out; omega
      have nn17 : ¬ gn = gb17 := by have := LN.out; have := HL17.out; omega
      clear SD GD ND S4 G4 N4 HBL LW LN HL16 HL17
      have w0 := HR16.out.cell 0
      have w1 := HR16.out.free 0
      have w2 := HR17.out.cell 2
      have w3 := HR17.out.free 2
      simp at w0 w2
      rw [HAC.out]
      go_wp2_with fail
      have SE := Lib.hid ((SC.out.setCell (p := ⟨gb16, 0, none⟩) hg16 (.int .i64 15)).setCell (p := ⟨gb17, 2, none⟩) hg17 (.int .i64 127))
      have GE := Lib.hid ((GC.out.other ne16 0 (.int .i64 15)).other ne17 2 (.int .i64 127))
      have NE := Lib.hid ((NC.out.other nn16 0 (.int .i64 15)).other nn17 2 (.int .i64 127))
      have A16 := Lib.hid (((HR16.out.put 0 (.int .i64 15)).other HN16_17 2 (.int .i64 127)))
      have A17 := Lib.hid (((HR17.out.other (fun e => HN16_17 e.symm) 0 (.int .i64 15)).put 2 (.int .i64 127)))
      obtain ⟨WE, HWE⟩ : ∃ WE, Hid (WE = (WC.setCell ⟨gb16, 0, none⟩ (.int .i64 15)).setCell ⟨gb17, 2, none⟩ (.int .i64 127)) := ⟨_, rfl⟩
      rw [← HWE.out] at SE GE NE A16 A17 ⊢
      clear HWE SC GC NC HR16 HR17 w0 w1 w2 w3 HAC
      obtain ⟨q0, q1, q2, _⟩ := GE.out
      dsimp only at q0 q1 q2
      have c4 : WE.cell? ⟨gn, 4, none⟩ = some (.int .i64 r) := NE.out.cell 4
      have i0 : WE.cell? ⟨gb16, 0, none⟩ = some (.int .i64 15) := A16.out.cell 0
      have i1 : WE.cell? ⟨gb16, 1, none⟩ = some (.int .i64 p) := A16.out.cell 1
      have i2 : WE.cell? ⟨gb16, 2, none⟩ = some (.int .i64 s) := A16.out.cell 2
      have j0 : WE.cell? ⟨gb17, 0, none⟩ = some (.int .i64 b) := A17.out.cell 0
      have j1 : WE.cell? ⟨gb17, 1, none⟩ = some (.int .i64 p) := A17.out.cell 1
      have j2 : WE.cell? ⟨gb17, 2, none⟩ = some (.int .i64 127) := A17.out.cell 2
      have k0 := cell_regrown q0
      have k1 := cell_regrown q1
      have k2 := cell_regrown q2
      have k3 := cell_regrown c4
      have k4 := cell_regrown i0
      have k5 := cell_regrown i1
      have k6 := cell_regrown i2
      have k7 := cell_regrown j0
      have k8 := cell_regrown j1
      have k9 := cell_regrown j2
      have t1 := Lib.hid (fun (dd : Nat) (os : Array Obj) => quiet_saysv (cS0.out (grow (redrawn WE dd) os)))
      have t2 := Lib.hid (fun (dd : Nat) (os : Array Obj) => quiet_saysv (cS1.out (grow (redrawn WE dd) os)))
      have t3 := Lib.hid (fun (dd : Nat) (os : Array Obj) => quiet_saysv (cS2.out (grow (redrawn WE dd) os)))
      have t4 := Lib.hid (fun (dd : Nat) (os : Array Obj) => quiet_saysv (cS3.out (grow (redrawn WE dd) os)))
      have t5 := Lib.hid (fun (dd : Nat) (os : Array Obj) => quiet_saysv (cF0.out (grow (redrawn WE dd) os)))
      have t6 := Lib.hid (fun (dd : Nat) (os : Array Obj) => quiet_saysv (cF1.out (grow (redrawn WE dd) os)))
      have t7 := Lib.hid (fun (dd : Nat) (os : Array Obj) => quiet_says (cM0.out (grow (redrawn WE dd) os)))
      have t8 := Lib.hid (fun (dd : Nat) (os : Array Obj) => quiet_saysv (cL1.out (grow (redrawn WE dd) os)))
      have t9 := Lib.hid (fun (dd : Nat) (os : Array Obj) => quiet_saysv (cP0.out (grow (redrawn WE dd) os)))
      have t10 := Lib.hid (fun (dd : Nat) (os : Array Obj) => quiet_says (awake_any (grow (redrawn WE dd) os)))
      simp only [List.append_eq, List.cons_append, List.nil_append]
      refine wp_region_quiet_below (by kernel_rfl) (by kernel_rfl) ?_
      repeat (go_big_quiet_step (first
        | (go_at_call 9; exact t10.out _ _)
        | (go_at_call_of 18 (Value.int IntKind.i64 cp); exact t1.out _ _)
        | (go_at_call_of 18 (Value.int IntKind.i64 cr); exact t2.out _ _)
        | (go_at_call_of 18 (Value.int IntKind.i64 0); exact t4.out _ _)
        | (go_at_call_of 18 (Value.int IntKind.i64 cm); exact t3.out _ _)
        | (go_at_call_of 12 (Value.agg #[Value.int IntKind.i64 15, Value.int IntKind.i64 p, Value.int IntKind.i64 s]); exact t5.out _ _)
        | (go_at_call 12; exact t6.out _ _)
        | (go_at_call 14; exact t7.out _ _)
        | (go_at_call 16; exact t8.out _ _)
        | (go_at_call 20; exact t9.out _ _)))
      refine wpQuiet_nil ?_
      intro W9 hw'
      obtain ⟨⟨dq, osq⟩, hw''⟩ := hw'
      have S9 : Hid (Below w.heap.size w W9) := by rw [hw'']; exact below_chain SE.out (below_regrown WE dq osq)
      clear hw'' k0 k1 k2 k3 k4 k5 k6 k7 k8 k9 t1 t2 t3 t4 t5 t6 t7 t8 t9 t10 q0 q1 q2 c4 i0 i1 i2 j0 j1 j2
      go_wp2_with fail
      go_ret
      exact ⟨rfl, S9⟩
end Go.Proofs.Ytgdnpgijaijlhaa
