/- PlanFits: of each geometry that may be there is room for two checkpoints of all pages, and for what is kept beside; bad blocks take their pages. For every input. -/
import Derived.Test.YtgdnpgijaijlhaaPlanAwake
set_option linter.unusedVariables false
set_option linter.unusedSimpArgs false
namespace Go.Proofs.Ytgdnpgijaijlhaa
open Go.RowKit Go.Sort

theorem fits_pages {g : Geo} (h : inG g = true) : g.b * g.p ≤ checkG g * g.p * eachI g.s := by
  have he := each_in h
  obtain ⟨_, _, i2, _, _, _⟩ := inG_out h
  have ha := area_bd h
  have h1 := up_bd (m := partsG g) (e := g.p) (by omega)
  have h2 := up_bd (m := g.b * g.p) (e := eachI g.s) (by omega)
  have h3 : partsG g = upI (g.b * g.p) (eachI g.s) := parts_up (by omega) (by omega)
  rw [← h3] at h2
  have h4 : partsG g * eachI g.s ≤ checkG g * g.p * eachI g.s := Int.mul_le_mul_of_nonneg_right h1.1 (by omega)
  omega
theorem limit_may {g : Geo} (h : mayG g = true) {bad : Int} (hb : 0 ≤ bad) : limitG g bad = max ((ofG g).room - bad) 0 * g.p := if_pos ⟨h, hb⟩
theorem limit_not {g : Geo} (h : mayG g = false) (bad : Int) : limitG g bad = 0 := if_neg (by rw [h]; simp)
theorem limit_neg {g : Geo} {bad : Int} (h : bad < 0) : limitG g bad = 0 := if_neg (by omega)
theorem room_may {g : Geo} (h : mayG g = true) : 1 ≤ (ofG g).room := of_decide_eq_true h
theorem room_not {g : Geo} (h : mayG g = false) : (ofG g).room < 1 := by
  have := of_decide_eq_false h
  omega
/-- A geometry whose numbers are within. -/
theorem in_of {b p s : Int} (b0 : 16 ≤ b) (b1 : b ≤ 32) (p0 : 4 ≤ p) (p1 : p ≤ 8) (s0 : 128 ≤ s) (s1 : s ≤ 256) : inG ⟨b, p, s⟩ = true := inG_yes ⟨b0, b1, p0, p1, s0, s1⟩

set_option maxHeartbeats 8000000 in
theorem fits_law (x1 x2 x3 x4 : Int) (w : World) : Calls Try.prog 4 #[.int .i64 x1, .int .i64 x2, .int .i64 x3, .int .i64 x4] w (SaysB w true) := by
  obtain ⟨la, Hla⟩ : ∃ la, Hid (lowM x1 17 = la) := ⟨_, rfl⟩
  obtain ⟨lb, Hlb⟩ : ∃ lb, Hid (lowM x2 5 = lb) := ⟨_, rfl⟩
  obtain ⟨lc, Hlc⟩ : ∃ lc, Hid (lowM x3 129 = lc) := ⟨_, rfl⟩
  have da := lowM_bd x1 17 (by omega)
  have db := lowM_bd x2 5 (by omega)
  have dc := lowM_bd x3 129 (by omega)
  rw [Hla.out] at da
  rw [Hlb.out] at db
  rw [Hlc.out] at dc
  obtain ⟨a0, a1⟩ := da
  obtain ⟨a2, a3⟩ := db
  obtain ⟨a4, a5⟩ := dc
  obtain ⟨b, Hb⟩ : ∃ b, Hid (16 + la = b) := ⟨_, rfl⟩
  obtain ⟨p, Hp⟩ : ∃ p, Hid (4 + lb = p) := ⟨_, rfl⟩
  obtain ⟨s, Hs⟩ : ∃ s, Hid (128 + lc = s) := ⟨_, rfl⟩
  have b0 : 16 ≤ b := by rw [← Hb.out]; omega
  have b1 : b ≤ 32 := by rw [← Hb.out]; omega
  have p0 : 4 ≤ p := by rw [← Hp.out]; omega
  have p1 : p ≤ 8 := by rw [← Hp.out]; omega
  have s0 : 128 ≤ s := by rw [← Hs.out]; omega
  have s1 : s ≤ 256 := by rw [← Hs.out]; omega
  have S1 := Lib.hid (since_alloc (Below.refl w.heap.size w) (.cells #[.int .i64 b, .int .i64 p, .int .i64 s] 23))
  have G1 : Hid (GeoAt (w.alloc (.cells #[.int .i64 b, .int .i64 p, .int .i64 s] 23)) w.heap.size ⟨b, p, s⟩) := geoAt_new w ⟨b, p, s⟩
  obtain ⟨W1, HW1⟩ : ∃ W1, Hid (W1 = w.alloc (.cells #[.int .i64 b, .int .i64 p, .int .i64 s] 23)) := ⟨_, rfl⟩
  go_enter Try.func4, Try.ntmps4
  go_wp2_with fail
  refine (low_any x1 17 (by omega) (by omega) _).mono ?_
  rw [Hla.out]
  rintro e w' ⟨rfl, rfl⟩
  go_wp2_with fail
  refine (low_any x2 5 (by omega) (by omega) _).mono ?_
  rw [Hlb.out]
  rintro e w' ⟨rfl, rfl⟩
  go_wp2_with fail
  refine (low_any x3 129 (by omega) (by omega) _).mono ?_
  rw [Hlc.out]
  rintro e w' ⟨rfl, rfl⟩
  go_wp2_with fail
  rw [Hb.out, Hp.out, Hs.out, ← HW1.out]
  rw [← HW1.out] at S1 G1
  clear HW1 Hla Hlb Hlc Hb Hp Hs a0 a1 a2 a3 a4 a5
  have hin := in_of b0 b1 p0 p1 s0 s1
  have ha := area_bd hin
  have he := each_in hin
  have hk := check_in hin
  have hfits := fits_pages hin
  have hof := ofG_in hin
  dsimp only at ha he hfits hof
  obtain ⟨P, HP⟩ : ∃ P, Hid (b * p = P) := ⟨_, rfl⟩
  obtain ⟨e, HE⟩ : ∃ e, Hid (eachI s = e) := ⟨_, rfl⟩
  obtain ⟨k, HK⟩ : ∃ k, Hid (checkG ⟨b, p, s⟩ = k) := ⟨_, rfl⟩
  rw [HP.out] at ha
  rw [HE.out] at he
  rw [HK.out] at hk
  rw [HP.out, HE.out, HK.out] at hfits
  rw [HP.out, HE.out, HK.out] at hof
  obtain ⟨ha0, ha1⟩ := ha
  obtain ⟨he0, he1⟩ := he
  obtain ⟨hk0, hk1⟩ := hk
  obtain ⟨sp, HSP⟩ : ∃ sp, Hid (2 * k + 5 = sp) := ⟨_, rfl⟩
  obtain ⟨r, HR⟩ : ∃ r, Hid (b - sp = r) := ⟨_, rfl⟩
  obtain ⟨mo, HMO⟩ : ∃ mo, Hid (8 * P + 200 = mo) := ⟨_, rfl⟩
  rw [HSP.out, HR.out, HMO.out] at hof
  have hr0 : -200 ≤ r := by have := HR.out; have := HSP.out; omega
  have hr1 : r ≤ 25 := by have := HR.out; have := HSP.out; omega
  have hsum : 2 * k + 5 + r = b := by have := HR.out; have := HSP.out; omega
  have hroom : (ofG ⟨b, p, s⟩).room = r := by rw [hof]
  have HOF := Lib.hid hof
  have cO := Lib.hid (fun W => of_any ⟨b, p, s⟩ W)
  have cM := Lib.hid (fun W => may_any ⟨b, p, s⟩ W)
  rw [hof] at cO
  unfold geoV numsV at cO
  unfold geoV at cM
  dsimp only at cO cM
  clear hof HSP HR HMO HP HE HK
  refine (cO.out _).mono ?_
  rintro e' W2 ⟨rfl, hb2⟩
  have S2 := Lib.hid (below_chain S1.out hb2.out)
  have G2 := Lib.hid (G1.out.since hb2.out)
  have S3 := Lib.hid (since_alloc S2.out (.cells #[.int .i64 P, .int .i64 e, .int .i64 k, .int .i64 sp, .int .i64 r, .int .i64 mo] 28))
  have G3 := Lib.hid (G2.out.since (below_alloc_self W2 (.cells #[.int .i64 P, .int .i64 e, .int .i64 k, .int .i64 sp, .int .i64 r, .int .i64 mo] 28)))
  have N3 := Lib.hid (RowC.new W2 #[.int .i64 P, .int .i64 e, .int .i64 k, .int .i64 sp, .int .i64 r, .int .i64 mo] 28)
  obtain ⟨W3, HW3⟩ : ∃ W3, Hid (W3 = W2.alloc (.cells #[.int .i64 P, .int .i64 e, .int .i64 k, .int .i64 sp, .int .i64 r, .int .i64 mo] 28)) := ⟨_, rfl⟩
  obtain ⟨gn, HGN⟩ : ∃ gn, Hid (gn = W2.heap.size) := ⟨_, rfl⟩
  obtain ⟨q0, q1, q2, _⟩ := G3.out
  dsimp only at q0 q1 q2
  go_wp2_with fail
  rw [← HW3.out] at S3 G3 N3 q0 q1 q2 ⊢
  rw [← HGN.out] at N3 ⊢
  clear HW3 HGN S1 G1 S2 G2 hb2 q0 q1 q2
  refine (cM.out _).mono ?_
  rintro e' W4 ⟨rfl, hb4⟩
  have S4 := Lib.hid (below_chain S3.out hb4.out)
  have G4 := Lib.hid (G3.out.since hb4.out)
  have N4 := Lib.hid (N3.out.since hb4.out)
  clear S3 G3 N3 hb4
  obtain ⟨q0, q1, q2, _⟩ := G4.out
  dsimp only at q0 q1 q2
  have c0 : W4.cell? ⟨gn, 0, none⟩ = some (.int .i64 P) := N4.out.cell 0
  have c1 : W4.cell? ⟨gn, 1, none⟩ = some (.int .i64 e) := N4.out.cell 1
  have c2 : W4.cell? ⟨gn, 2, none⟩ = some (.int .i64 k) := N4.out.cell 2
  have c4 : W4.cell? ⟨gn, 4, none⟩ = some (.int .i64 r) := N4.out.cell 4
  cases hm : mayG ⟨b, p, s⟩ with
  | false =>
    have hr2 := room_not hm
    rw [hroom] at hr2
    have hl := limit_not hm
    have cL := Lib.hid (fun W => limit_any ⟨b, p, s⟩ 0 W (by omega))
    rw [hl 0] at cL
    unfold geoV at cL
    dsimp only at cL
    go_wp2_with fail
    refine (cL.out _).mono ?_
    rintro e' W5 ⟨rfl, hb5⟩
    have S5 := Lib.hid (below_chain S4.out hb5.out)
    go_wp2_with fail
    refine (awake_any _).mono ?_
    rintro e' W6 ⟨rfl, hb6⟩
    have S6 := Lib.hid (below_chain S5.out hb6.out)
    go_wp2_with fail
    go_ret
    exact ⟨rfl, S6⟩
  | true =>
    have hr2 := room_may hm
    rw [hroom] at hr2
    obtain ⟨d, HD⟩ : ∃ d, Hid (lowM x4 b = d) := ⟨_, rfl⟩
    have hd := lowM_bd x4 b (by omega)
    rw [HD.out] at hd
    obtain ⟨d0, d1⟩ := hd
    have hl0 := limit_may hm (bad := 0) (by omega)
    have hl1 := limit_may hm (bad := d) d0
    have hl2 := limit_neg (g := ⟨b, p, s⟩) (bad := -1) (by omega)
    rw [hroom] at hl0 hl1
    dsimp only at hl0 hl1
    rw [show max (r - 0) 0 = r by omega] at hl0
    obtain ⟨mx, HMX⟩ : ∃ mx, Hid (max (r - d) 0 = mx) := ⟨_, rfl⟩
    have hm0 : 0 ≤ mx := by rw [← HMX.out]; omega
    have hm1 : mx ≤ 25 := by rw [← HMX.out]; omega
    rw [HMX.out] at hl1
    obtain ⟨rp, HRP⟩ : ∃ rp, Hid (r * p = rp) := ⟨_, rfl⟩
    obtain ⟨y, HY⟩ : ∃ y, Hid (mx * p = y) := ⟨_, rfl⟩
    obtain ⟨kp, HKP⟩ : ∃ kp, Hid (k * p = kp) := ⟨_, rfl⟩
    obtain ⟨ke, HKE⟩ : ∃ ke, Hid (kp * e = ke) := ⟨_, rfl⟩
    have bd : ∀ {u v U V : Int}, 0 ≤ u → u ≤ U → 0 ≤ v → v ≤ V → 0 ≤ u * v ∧ u * v ≤ U * V := fun h1 h2 h3 h4 => ⟨Int.mul_nonneg h1 h3, Int.mul_le_mul h2 h4 h3 (by omega)⟩
    have w1 := bd (u := r) (v := p) (U := 25) (V := 8) (by omega) hr1 (by omega) p1
    have w2 := bd (u := mx) (v := p) (U := 25) (V := 8) hm0 hm1 (by omega) p1
    have w3 := bd (u := k) (v := p) (U := 64) (V := 8) (by omega) hk1 (by omega) p1
    rw [HRP.out] at w1 hl0
    rw [HY.out] at w2 hl1
    rw [HKP.out] at w3 hfits
    have w4 := bd (u := kp) (v := e) (U := 512) (V := 14) w3.1 w3.2 (by omega) he1
    rw [HKE.out] at w4 hfits
    obtain ⟨w10, w11⟩ := w1
    obtain ⟨w20, w21⟩ := w2
    obtain ⟨w30, w31⟩ := w3
    obtain ⟨w40, w41⟩ := w4
    clear bd
    have hrp := HRP.out
    have hy := HY.out
    have hkp := HKP.out
    have hke := HKE.out
    go_wp2_with fail
    refine (low_any x4 b (by omega) (by omega) _).mono ?_
    rw [HD.out]
    rintro e' w' ⟨rfl, rfl⟩
    go_wp2_with fail
    have k0 := cell_regrown q0
    have k1 := cell_regrown q1
    have k2 := cell_regrown q2
    have r0 := cell_regrown c0
    have r1 := cell_regrown c1
    have r2 := cell_regrown c2
    have r4 := cell_regrown c4
    have t1 := Lib.hid (fun (dd : Nat) (os : Array Obj) => quiet_saysv (limit_any ⟨b, p, s⟩ 0 (grow (redrawn W4 dd) os) (by omega)))
    have t2 := Lib.hid (fun (dd : Nat) (os : Array Obj) => quiet_saysv (limit_any ⟨b, p, s⟩ d (grow (redrawn W4 dd) os) (by omega)))
    have t3 := Lib.hid (fun (dd : Nat) (os : Array Obj) => quiet_saysv (limit_any ⟨b, p, s⟩ (-1) (grow (redrawn W4 dd) os) (by omega)))
    have t4 := Lib.hid (fun (dd : Nat) (os : Array Obj) => quiet_says (awake_any (grow (redrawn W4 dd) os)))
    rw [hl0] at t1
    rw [hl1] at t2
    rw [hl2] at t3
    unfold geoV at t1 t2 t3
    dsimp only at t1 t2 t3
    clear hroom hl0 hl1 hl2 HRP HY HKP HKE cO cM
    by_cases hmx : r - d < 0
    · obtain rfl : mx = 0 := by rw [← HMX.out]; omega
      obtain rfl : y = 0 := by rw [← hy]; simp
      refine wp_region_quiet_below (by kernel_rfl) (by kernel_rfl) ?_
      repeat (go_big_quiet_step (first
        | (go_at_call 9; exact t4.out _ _)
        | (go_at_call_of 16 (Value.int IntKind.i64 0); exact t1.out _ _)
        | (go_at_call_of 16 (Value.int IntKind.i64 d); exact t2.out _ _)
        | (go_at_call 16; exact t3.out _ _)))
      refine wpQuiet_nil ?_
      intro W5 hw'
      obtain ⟨⟨dq, osq⟩, hw''⟩ := hw'
      have S5 : Hid (Below w.heap.size w W5) := by rw [hw'']; exact below_chain S4.out (below_regrown W4 dq osq)
      clear hw'' k0 k1 k2 r0 r1 r2 r4 t1 t2 t3 t4 q0 q1 q2 c0 c1 c2 c4
      go_wp2_with fail
      go_ret
      exact ⟨rfl, S5⟩
    · obtain rfl : mx = r - d := by rw [← HMX.out]; omega
      refine wp_region_quiet_below (by kernel_rfl) (by kernel_rfl) ?_
      repeat (go_big_quiet_step (first
        | (go_at_call 9; exact t4.out _ _)
        | (go_at_call_of 16 (Value.int IntKind.i64 0); exact t1.out _ _)
        | (go_at_call_of 16 (Value.int IntKind.i64 d); exact t2.out _ _)
        | (go_at_call 16; exact t3.out _ _)))
      refine wpQuiet_nil ?_
      intro W5 hw'
      obtain ⟨⟨dq, osq⟩, hw''⟩ := hw'
      have S5 : Hid (Below w.heap.size w W5) := by rw [hw'']; exact below_chain S4.out (below_regrown W4 dq osq)
      clear hw'' k0 k1 k2 r0 r1 r2 r4 t1 t2 t3 t4 q0 q1 q2 c0 c1 c2 c4
      go_wp2_with fail
      go_ret
      exact ⟨rfl, S5⟩
end Go.Proofs.Ytgdnpgijaijlhaa
