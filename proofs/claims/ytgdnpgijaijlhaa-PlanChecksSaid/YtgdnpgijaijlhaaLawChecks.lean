/- PlanChecks: a checkpoint of all pages goes into its blocks, and into none fewer; of two such, and five blocks beside, nothing may be dirty. For every input. -/
import Derived.Test.YtgdnpgijaijlhaaLawFits
import Derived.Test.YtgdnpgijaijlhaaGrowMath
set_option linter.unusedVariables false
set_option linter.unusedSimpArgs false
namespace Go.Proofs.Ytgdnpgijaijlhaa
open Go.RowKit Go.Sort

set_option maxHeartbeats 8000000 in
theorem checks_law (x1 x2 x3 : Int) (w : World) : Calls Try.prog 8 #[.int .i64 x1, .int .i64 x2, .int .i64 x3] w (SaysB w true) := by
  obtain ⟨la, Hla⟩ : ∃ la, Hid (lowM x1 17 = la) := ⟨_, rfl⟩
  have dla := lowM_bd x1 17 (by omega)
  rw [Hla.out] at dla
  obtain ⟨la0, la1⟩ := dla
  obtain ⟨lb, Hlb⟩ : ∃ lb, Hid (lowM x2 5 = lb) := ⟨_, rfl⟩
  have dlb := lowM_bd x2 5 (by omega)
  rw [Hlb.out] at dlb
  obtain ⟨lb0, lb1⟩ := dlb
  obtain ⟨lc, Hlc⟩ : ∃ lc, Hid (lowM x3 129 = lc) := ⟨_, rfl⟩
  have dlc := lowM_bd x3 129 (by omega)
  rw [Hlc.out] at dlc
  obtain ⟨lc0, lc1⟩ := dlc
  obtain ⟨b, Hb⟩ : ∃ b, Hid (16 + la = b) := ⟨_, rfl⟩
  have b0 : 16 ≤ b := by rw [← Hb.out]; omega
  have b1 : b ≤ 32 := by rw [← Hb.out]; omega
  obtain ⟨p, Hp⟩ : ∃ p, Hid (4 + lb = p) := ⟨_, rfl⟩
  have p0 : 4 ≤ p := by rw [← Hp.out]; omega
  have p1 : p ≤ 8 := by rw [← Hp.out]; omega
  obtain ⟨s, Hs⟩ : ∃ s, Hid (128 + lc = s) := ⟨_, rfl⟩
  have s0 : 128 ≤ s := by rw [← Hs.out]; omega
  have s1 : s ≤ 256 := by rw [← Hs.out]; omega
  have S1 := Lib.hid (since_alloc (Below.refl w.heap.size w) (.cells #[.int .i64 b, .int .i64 p, .int .i64 s] 23))
  have G1 : Hid (GeoAt (w.alloc (.cells #[.int .i64 b, .int .i64 p, .int .i64 s] 23)) w.heap.size ⟨b, p, s⟩) := geoAt_new w ⟨b, p, s⟩
  obtain ⟨W1, HW1⟩ : ∃ W1, Hid (W1 = w.alloc (.cells #[.int .i64 b, .int .i64 p, .int .i64 s] 23)) := ⟨_, rfl⟩
  go_enter Try.func8, Try.ntmps8
  go_wp2_with fail
  refine (low_any x1 17 (by omega) (by omega) _).mono ?_
  rw [Hla.out]
  rintro e w' ⟨rfl, rfl⟩
  go_wp2_with fail
  refine (low_any x2 5 (by omega) (by omega) _).mono ?_
  rw [Hlb.out]
  rintro e w' ⟨rfl, rfl⟩
  go_wp2_with fail
  refine (low_any x3 129 (by omega) (by omega) _).mono ?_
  rw [Hlc.out]
  rintro e w' ⟨rfl, rfl⟩
  go_wp2_with fail
  rw [Hb.out, Hp.out, Hs.out, ← HW1.out]
  rw [← HW1.out] at S1 G1
  have hin := in_of b0 b1 p0 p1 s0 s1
  clear HW1 Hla la0 la1 Hlb lb0 lb1 Hlc lc0 lc1 Hb Hp
  have ha := area_bd hin
  have he := each_in hin
  have hk := check_in hin
  have hof := ofG_in hin
  dsimp only at ha he hof
  obtain ⟨P, HP⟩ : ∃ P, Hid (b * p = P) := ⟨_, rfl⟩
  obtain ⟨e, HE⟩ : ∃ e, Hid (eachI s = e) := ⟨_, rfl⟩
  obtain ⟨k, HK⟩ : ∃ k, Hid (checkG ⟨b, p, s⟩ = k) := ⟨_, rfl⟩
  rw [HP.out] at ha
  rw [HE.out] at he
  rw [HK.out] at hk
  rw [HP.out, HE.out, HK.out] at hof
  obtain ⟨ha0, ha1⟩ := ha
  obtain ⟨he0, he1⟩ := he
  obtain ⟨hk0, hk1⟩ := hk
  obtain ⟨sp, HSP⟩ : ∃ sp, Hid (2 * k + 5 = sp) := ⟨_, rfl⟩
  obtain ⟨r, HR⟩ : ∃ r, Hid (b - sp = r) := ⟨_, rfl⟩
  obtain ⟨mo, HMO⟩ : ∃ mo, Hid (8 * P + 200 = mo) := ⟨_, rfl⟩
  rw [HSP.out, HR.out, HMO.out] at hof
  have hr0 : -200 ≤ r := by have := HR.out; have := HSP.out; omega
  have hr1 : r ≤ 25 := by have := HR.out; have := HSP.out; omega
  have hroom : (ofG ⟨b, p, s⟩).room = r := by rw [hof]
  have hroom3 := room_in hin
  rw [hroom] at hroom3
  have hm := mayG_yes hin
  have hq := parts_in hin
  have hup := up_bd (m := partsG ⟨b, p, s⟩) (e := p) (by omega)
  have hpq : partsI s P = partsG ⟨b, p, s⟩ := by rw [← HP.out]; rfl
  have hkq : upI (partsG ⟨b, p, s⟩) p = k := HK.out
  rw [hkq] at hup
  obtain ⟨q, HQ⟩ : ∃ q, Hid (partsG ⟨b, p, s⟩ = q) := ⟨_, rfl⟩
  rw [HQ.out] at hq hup hpq
  obtain ⟨q0', q1'⟩ := hq
  obtain ⟨u0, u1⟩ := hup
  have hlim := limit_may hm (bad := 0) (by omega)
  rw [hroom, show max (r - 0) 0 = r by omega] at hlim
  dsimp only at hlim
  have hpr : r * p = P - sp * p := by rw [← HR.out, Int.sub_mul, HP.out]
  have hkm : (k - 1) * p = k * p - p := by rw [Int.sub_mul]; omega
  have bd : ∀ {u v U V : Int}, 0 ≤ u → u ≤ U → 0 ≤ v → v ≤ V → 0 ≤ u * v ∧ u * v ≤ U * V := fun h1 h2 h3 h4 => ⟨Int.mul_nonneg h1 h3, Int.mul_le_mul h2 h4 h3 (by omega)⟩
  have w1 := bd (u := k) (v := p) (U := 64) (V := 8) (by omega) hk1 (by omega) p1
  have w2 := bd (u := sp) (v := p) (U := 133) (V := 8) (by have := HSP.out; omega) (by have := HSP.out; omega) (by omega) p1
  have w3 := bd (u := r) (v := p) (U := 25) (V := 8) (by omega) hr1 (by omega) p1
  obtain ⟨kp, HKP⟩ : ∃ kp, Hid (k * p = kp) := ⟨_, rfl⟩
  obtain ⟨km, HKM⟩ : ∃ km, Hid ((k - 1) * p = km) := ⟨_, rfl⟩
  obtain ⟨spp, HPP⟩ : ∃ spp, Hid (sp * p = spp) := ⟨_, rfl⟩
  obtain ⟨rp, HRP⟩ : ∃ rp, Hid (r * p = rp) := ⟨_, rfl⟩
  rw [HKP.out] at u0 u1 w1 hkm
  rw [HKM.out] at hkm
  rw [HPP.out] at w2 hpr
  rw [HRP.out] at w3 hpr hlim
  obtain ⟨w10, w11⟩ := w1
  obtain ⟨w20, w21⟩ := w2
  obtain ⟨w30, w31⟩ := w3
  have v0 : q ≤ kp := u0
  have v1 : km < q := by omega
  have v2 : rp ≤ P - spp := by omega
  have v3 : 0 ≤ km := by rw [← HKM.out]; exact Int.mul_nonneg (by omega) (by omega)
  have v4 : km ≤ 512 := by omega
  have v5 : P - spp ≤ 256 := by omega
  have v6 : 0 ≤ P - spp := by omega
  have hmul := HP.out
  have hkp := HKP.out
  have hkm' := HKM.out
  have hspp := HPP.out
  have hrr := HR.out
  have hss := HSP.out
  have HE2 := Lib.hid HE.out
  have HPQ := Lib.hid hpq
  have HLIM := Lib.hid hlim
  have HM := Lib.hid hm
  clear bd hpr hkm hlim hpq hroom hroom3 hm hkq u0 u1 HP HE HK HSP HR HMO HKP HKM HPP HRP HQ
  have cO := Lib.hid (fun W => of_any ⟨b, p, s⟩ W)
  rw [hof] at cO
  unfold geoV numsV at cO
  dsimp only at cO
  refine (cO.out _).mono ?_
  rintro e' WX ⟨rfl, hbx⟩
  have SX := Lib.hid (below_chain S1.out hbx.out)
  have GX := Lib.hid (G1.out.since hbx.out)
  have S3 := Lib.hid (since_alloc SX.out (.cells #[.int .i64 P, .int .i64 e, .int .i64 k, .int .i64 sp, .int .i64 r, .int .i64 mo] 28))
  have G3 := Lib.hid (GX.out.since (below_alloc_self WX (.cells #[.int .i64 P, .int .i64 e, .int .i64 k, .int .i64 sp, .int .i64 r, .int .i64 mo] 28)))
  have N3 := Lib.hid (RowC.new WX #[.int .i64 P, .int .i64 e, .int .i64 k, .int .i64 sp, .int .i64 r, .int .i64 mo] 28)
  obtain ⟨W3, HWN⟩ : ∃ WN, Hid (WN = WX.alloc (.cells #[.int .i64 P, .int .i64 e, .int .i64 k, .int .i64 sp, .int .i64 r, .int .i64 mo] 28)) := ⟨_, rfl⟩
  obtain ⟨gn, HGN⟩ : ∃ gn, Hid (gn = WX.heap.size) := ⟨_, rfl⟩
  obtain ⟨q0, q1, q2, _⟩ := G3.out
  dsimp only at q0 q1 q2
  go_wp2_with fail
  rw [← HWN.out] at S3 G3 N3 q0 q1 q2 ⊢
  rw [← HGN.out] at N3 ⊢
  clear cO hof HWN HGN S1 G1 SX GX hbx q0 q1 q2
  obtain ⟨q0, q1, q2, _⟩ := G3.out
  dsimp only at q0 q1 q2
  have c0 : W3.cell? ⟨gn, 0, none⟩ = some (.int .i64 P) := N3.out.cell 0
  have c1 : W3.cell? ⟨gn, 1, none⟩ = some (.int .i64 e) := N3.out.cell 1
  have c2 : W3.cell? ⟨gn, 2, none⟩ = some (.int .i64 k) := N3.out.cell 2
  have c3 : W3.cell? ⟨gn, 3, none⟩ = some (.int .i64 sp) := N3.out.cell 3
  have c4 : W3.cell? ⟨gn, 4, none⟩ = some (.int .i64 r) := N3.out.cell 4
  have cL := Lib.hid (fun W => limit_any ⟨b, p, s⟩ 0 W (by omega))
  rw [HLIM.out] at cL
  unfold geoV at cL
  dsimp only at cL
  go_wp2_with fail
  refine (parts_any s P _ (by omega)).mono ?_
  rw [HPQ.out]
  rintro e' w' ⟨rfl, rfl⟩
  go_wp2_with fail
  have k0 := cell_regrown q0
  have k1 := cell_regrown q1
  have k2 := cell_regrown q2
  have r0 := cell_regrown c0
  have r1 := cell_regrown c1
  have r2 := cell_regrown c2
  have r3 := cell_regrown c3
  have r4 := cell_regrown c4
  have t1 := Lib.hid (fun (dd : Nat) (os : Array Obj) => quiet_same (each_any s (grow (redrawn W3 dd) os)))
  have t2 := Lib.hid (fun (dd : Nat) (os : Array Obj) => quiet_saysv (cL.out (grow (redrawn W3 dd) os)))
  have t4 := Lib.hid (fun (dd : Nat) (os : Array Obj) => quiet_says (awake_any (grow (redrawn W3 dd) os)))
  rw [HE2.out] at t1
  simp only [List.append_eq, List.cons_append, List.nil_append]
  refine wp_region_quiet_below (by kernel_rfl) (by kernel_rfl) ?_
  repeat (go_big_quiet_step (first
    | (go_at_call 9; exact t4.out _ _)
    | (go_at_call 24; exact t1.out _ _)
    | (go_at_call 16; exact t2.out _ _)))
  refine wpQuiet_nil ?_
  intro W5 hw'
  obtain ⟨⟨dq, osq⟩, hw''⟩ := hw'
  have S5 : Hid (Below w.heap.size w W5) := by rw [hw'']; exact below_chain S3.out (below_regrown W3 dq osq)
  clear hw'' k0 k1 k2 r0 r1 r2 r3 r4 t1 t2 t4 q0 q1 q2 c0 c1 c2 c3 c4
  go_wp2_with fail
  go_ret
  exact ⟨rfl, S5⟩
end Go.Proofs.Ytgdnpgijaijlhaa
