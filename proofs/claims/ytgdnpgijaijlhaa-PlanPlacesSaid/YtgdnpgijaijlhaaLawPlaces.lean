/- PlanPlaces: each page has a number of its own, and each number its page. For every input. -/
import Derived.Test.YtgdnpgijaijlhaaLawFits
set_option linter.unusedVariables false
set_option linter.unusedSimpArgs false
namespace Go.Proofs.Ytgdnpgijaijlhaa
open Go.RowKit Go.Sort

theorem placeG_in {g : Geo} {n : Int} (hm : mayG g = true) (h0 : 0 ≤ n) (h1 : n < g.b * g.p) : placeG g n = (n / g.p, n % g.p) :=
  if_pos (by unfold placeIn; rw [hm]; simpa using ⟨h0, h1⟩)
theorem pageG_in {g : Geo} {b p : Int} (hm : mayG g = true) (h0 : 0 ≤ b) (h1 : b < g.b) (h2 : 0 ≤ p) (h3 : p < g.p) : pageG g b p = b * g.p + p := if_pos ⟨hm, h0, h1, h2, h3⟩
theorem pageG_out {g : Geo} {b p : Int} (h : ¬ b < g.b) : pageG g b p = -1 := if_neg (by omega)
theorem div_mod {a p B : Int} (hp : 0 < p) (h0 : 0 ≤ a) (h1 : a < B * p) : 0 ≤ a / p ∧ a / p < B ∧ 0 ≤ a % p ∧ a % p < p ∧ a / p * p + a % p = a :=
  ⟨Int.ediv_nonneg h0 (by omega), Int.ediv_lt_of_lt_mul hp h1, Int.emod_nonneg _ (by omega), Int.emod_lt_of_pos _ hp, by have := Int.mul_ediv_add_emod a p; rw [Int.mul_comm] at this; exact this⟩
set_option maxHeartbeats 8000000 in
theorem places_law (x1 x2 x3 x4 : Int) (w : World) : Calls Try.prog 5 #[.int .i64 x1, .int .i64 x2, .int .i64 x3, .int .i64 x4] w (SaysB w true) := by
  obtain ⟨la, Hla⟩ : ∃ la, Hid (lowM x1 17 = la) := ⟨_, rfl⟩
  have dla := lowM_bd x1 17 (by omega)
  rw [Hla.out] at dla
  obtain ⟨la0, la1⟩ := dla
  obtain ⟨lb, Hlb⟩ : ∃ lb, Hid (lowM x2 5 = lb) := ⟨_, rfl⟩
  have dlb := lowM_bd x2 5 (by omega)
  rw [Hlb.out] at dlb
  obtain ⟨lb0, lb1⟩ := dlb
  obtain ⟨b, Hb⟩ : ∃ b, Hid (16 + la = b) := ⟨_, rfl⟩
  have b0 : 16 ≤ b := by rw [← Hb.out]; omega
  have b1 : b ≤ 32 := by rw [← Hb.out]; omega
  obtain ⟨p, Hp⟩ : ∃ p, Hid (4 + lb = p) := ⟨_, rfl⟩
  have p0 : 4 ≤ p := by rw [← Hp.out]; omega
  have p1 : p ≤ 8 := by rw [← Hp.out]; omega
  obtain ⟨s, Hs⟩ : ∃ s : Int, Hid (256 = s) := ⟨_, rfl⟩
  have s0 : 128 ≤ s := by rw [← Hs.out]; omega
  have s1 : s ≤ 256 := by rw [← Hs.out]; omega
  have S1 := Lib.hid (since_alloc (Below.refl w.heap.size w) (.cells #[.int .i64 b, .int .i64 p, .int .i64 s] 23))
  have G1 : Hid (GeoAt (w.alloc (.cells #[.int .i64 b, .int .i64 p, .int .i64 s] 23)) w.heap.size ⟨b, p, s⟩) := geoAt_new w ⟨b, p, s⟩
  obtain ⟨W1, HW1⟩ : ∃ W1, Hid (W1 = w.alloc (.cells #[.int .i64 b, .int .i64 p, .int .i64 s] 23)) := ⟨_, rfl⟩
  go_enter Try.func5, Try.ntmps5
  go_wp2_with fail
  refine (low_any x1 17 (by omega) (by omega) _).mono ?_
  rw [Hla.out]
  rintro e w' ⟨rfl, rfl⟩
  go_wp2_with fail
  refine (low_any x2 5 (by omega) (by omega) _).mono ?_
  rw [Hlb.out]
  rintro e w' ⟨rfl, rfl⟩
  go_wp2_with fail
  rw [Hb.out, Hp.out, Hs.out, ← HW1.out]
  rw [← HW1.out] at S1 G1
  have hin := in_of b0 b1 p0 p1 s0 s1
  clear HW1 Hla la0 la1 Hlb lb0 lb1 Hb Hp
  have cM := Lib.hid (fun W => may_any ⟨b, p, s⟩ W)
  unfold geoV at cM
  dsimp only at cM
  refine (cM.out _).mono ?_
  rintro e' W2 ⟨rfl, hbx⟩
  have S2 := Lib.hid (below_chain S1.out hbx.out)
  have G2 := Lib.hid (G1.out.since hbx.out)
  clear S1 hbx G1
  obtain ⟨q0, q1, q2, _⟩ := G2.out
  dsimp only at q0 q1 q2
  cases hm : mayG ⟨b, p, s⟩ with
  | false =>
    go_wp2_with fail
    refine (awake_any _).mono ?_
    rintro e' W3 ⟨rfl, hb3⟩
    have S3 := Lib.hid (below_chain S2.out hb3.out)
    go_wp2_with fail
    go_ret
    exact ⟨rfl, S3⟩
  | true =>
    have ha := area_bd hin
    dsimp only at ha
    obtain ⟨A, HA⟩ : ∃ A, Hid (b * p = A) := ⟨_, rfl⟩
    rw [HA.out] at ha
    obtain ⟨A0, A1⟩ := ha
    obtain ⟨a, Ha⟩ : ∃ a, Hid (lowM x3 A = a) := ⟨_, rfl⟩
    obtain ⟨c, Hc⟩ : ∃ c, Hid (lowM x4 A = c) := ⟨_, rfl⟩
    have da := lowM_bd x3 A (by omega)
    have dc := lowM_bd x4 A (by omega)
    rw [Ha.out] at da
    rw [Hc.out] at dc
    obtain ⟨a0, a1⟩ := da
    obtain ⟨c0, c1⟩ := dc
    have hA := HA.out
    have pa := placeG_in (n := a) hm a0 (by dsimp only; omega)
    have pc := placeG_in (n := c) hm c0 (by dsimp only; omega)
    obtain ⟨x0, x1, u0, u1, hx⟩ := div_mod (a := a) (p := p) (B := b) (by omega) a0 (by omega)
    obtain ⟨y0, y1, v0, v1, hy⟩ := div_mod (a := c) (p := p) (B := b) (by omega) c0 (by omega)
    dsimp only at pa pc
    obtain ⟨x, HX⟩ : ∃ x, Hid (a / p = x) := ⟨_, rfl⟩
    obtain ⟨u, HU⟩ : ∃ u, Hid (a % p = u) := ⟨_, rfl⟩
    obtain ⟨y, HY⟩ : ∃ y, Hid (c / p = y) := ⟨_, rfl⟩
    obtain ⟨v, HV⟩ : ∃ v, Hid (c % p = v) := ⟨_, rfl⟩
    rw [HX.out] at x0 x1
    rw [HU.out] at u0 u1
    rw [HX.out, HU.out] at pa hx
    rw [HY.out] at y0 y1
    rw [HV.out] at v0 v1
    rw [HY.out, HV.out] at pc hy
    have pg := pageG_in (b := x) (p := u) hm x0 x1 u0 u1
    have pn := pageG_out (g := ⟨b, p, s⟩) (b := b) (p := 0) (by dsimp only; omega)
    dsimp only at pg
    rw [hx] at pg
    have HIN : Hid ((x = y ∧ u = v) ↔ a = c) := by
      show _ ↔ _
      constructor
      · rintro ⟨e1, e2⟩
        rw [← hx, ← hy, e1, e2]
      · intro e
        exact ⟨by rw [← HX.out, ← HY.out, e], by rw [← HU.out, ← HV.out, e]⟩
    clear hx hy HX HU HY HV HA
    have cA : Hid (∀ W, Calls Try.prog 22 #[.int .i64 x3, .int .i64 A] W fun e w' => e = .returned (.int .i64 a) ∧ w' = W) := fun W => by
      refine (low_any x3 A (by omega) (by omega) W).mono ?_
      rintro e w' ⟨rfl, rfl⟩
      rw [Ha.out]
      exact ⟨rfl, rfl⟩
    have cC : Hid (∀ W, Calls Try.prog 22 #[.int .i64 x4, .int .i64 A] W fun e w' => e = .returned (.int .i64 c) ∧ w' = W) := fun W => by
      refine (low_any x4 A (by omega) (by omega) W).mono ?_
      rintro e w' ⟨rfl, rfl⟩
      rw [Hc.out]
      exact ⟨rfl, rfl⟩
    have w0 : IntKind.i64.wrap A = A := by rw [IntKind.wrap_i64]; omega
    go_wp2_with fail
    refine wp_region_still_lit (by kernel_rfl) (by kernel_rfl) ?_
    repeat (first | still_step | still_call (cA.out _) | still_call (cC.out _))
    refine wpStill_nil ?_
    have S3 := Lib.hid (S2.out.drew)
    have G3 := Lib.hid (G2.out.since (Below.refl _ _).drew)
    obtain ⟨W3, HW3⟩ : ∃ W3, Hid (W3 = W2.drew) := ⟨_, rfl⟩
    change Exit.then _ _ _ _ W2.drew
    rw [← HW3.out] at S3 G3 ⊢
    clear HW3 S2 G2 cA cC Ha Hc w0
    clear q0 q1 q2
    obtain ⟨q0, q1, q2, _⟩ := G3.out
    dsimp only at q0 q1 q2
    have cP := Lib.hid (fun W => place_any ⟨b, p, s⟩ a W)
    have cQ := Lib.hid (fun W => place_any ⟨b, p, s⟩ c W)
    have cG := Lib.hid (fun W => page_any ⟨b, p, s⟩ x u W)
    have cN := Lib.hid (fun W => page_any ⟨b, p, s⟩ b 0 W)
    rw [pa] at cP
    rw [pc] at cQ
    rw [pg] at cG
    rw [pn] at cN
    unfold geoV at cP cQ cG cN
    dsimp only at cP cQ cG cN
    clear pa pc pg pn hA hm
    go_wp2_with fail
    refine (cP.out _).mono ?_
    rintro e' W4 ⟨rfl, hbx⟩
    have S4 := Lib.hid (below_chain S3.out hbx.out)
    have G4 := Lib.hid (G3.out.since hbx.out)
    clear S3 hbx G3
    clear q0 q1 q2
    obtain ⟨q0, q1, q2, _⟩ := G4.out
    dsimp only at q0 q1 q2
    go_wp2_with fail
    refine (cQ.out _).mono ?_
    rintro e' W5 ⟨rfl, hbx⟩
    have S5 := Lib.hid (below_chain S4.out hbx.out)
    have G5 := Lib.hid (G4.out.since hbx.out)
    clear S4 hbx G4
    clear q0 q1 q2
    obtain ⟨q0, q1, q2, _⟩ := G5.out
    dsimp only at q0 q1 q2
    by_cases hac : a = c
    · obtain ⟨e1, e2⟩ := HIN.out.2 hac
      subst hac e1 e2
      go_wp2_with fail
      refine (cG.out _).mono ?_
      rintro e' W6 ⟨rfl, hbx⟩
      have S6 := Lib.hid (below_chain S5.out hbx.out)
      have G6 := Lib.hid (G5.out.since hbx.out)
      clear S5 hbx G5
      clear q0 q1 q2
      obtain ⟨q0, q1, q2, _⟩ := G6.out
      dsimp only at q0 q1 q2
      go_wp2_with fail
      refine (cN.out _).mono ?_
      rintro e' W7 ⟨rfl, hbx⟩
      have S7 := Lib.hid (below_chain S6.out hbx.out)
      have G7 := Lib.hid (G6.out.since hbx.out)
      clear S6 hbx G6
      clear q0 q1 q2
      obtain ⟨q0, q1, q2, _⟩ := G7.out
      dsimp only at q0 q1 q2
      go_wp2_with fail
      refine (awake_any _).mono ?_
      rintro e' W8 ⟨rfl, hb8⟩
      have S8 := Lib.hid (below_chain S7.out hb8.out)
      go_wp2_with fail
      go_ret
      exact ⟨rfl, S8⟩
    · have ba : (a == c) = false := by simpa using hac
      by_cases hxy : x = y
      · have huv : ¬ u = v := fun h => hac (HIN.out.1 ⟨hxy, h⟩)
        have bu : (u == v) = false := by simpa using huv
        subst hxy
        go_wp2_with fail
        refine (cG.out _).mono ?_
        rintro e' W6 ⟨rfl, hbx⟩
        have S6 := Lib.hid (below_chain S5.out hbx.out)
        have G6 := Lib.hid (G5.out.since hbx.out)
        clear S5 hbx G5
        clear q0 q1 q2
        obtain ⟨q0, q1, q2, _⟩ := G6.out
        dsimp only at q0 q1 q2
        go_wp2_with fail
        refine (cN.out _).mono ?_
        rintro e' W7 ⟨rfl, hbx⟩
        have S7 := Lib.hid (below_chain S6.out hbx.out)
        have G7 := Lib.hid (G6.out.since hbx.out)
        clear S6 hbx G6
        clear q0 q1 q2
        obtain ⟨q0, q1, q2, _⟩ := G7.out
        dsimp only at q0 q1 q2
        go_wp2_with fail
        refine (awake_any _).mono ?_
        rintro e' W8 ⟨rfl, hb8⟩
        have S8 := Lib.hid (below_chain S7.out hb8.out)
        go_wp2_with fail
        go_ret
        exact ⟨rfl, S8⟩
      · have bx : (x == y) = false := by simpa using hxy
        go_wp2_with fail
        refine (cG.out _).mono ?_
        rintro e' W6 ⟨rfl, hbx⟩
        have S6 := Lib.hid (below_chain S5.out hbx.out)
        have G6 := Lib.hid (G5.out.since hbx.out)
        clear S5 hbx G5
        clear q0 q1 q2
        obtain ⟨q0, q1, q2, _⟩ := G6.out
        dsimp only at q0 q1 q2
        go_wp2_with fail
        refine (cN.out _).mono ?_
        rintro e' W7 ⟨rfl, hbx⟩
        have S7 := Lib.hid (below_chain S6.out hbx.out)
        have G7 := Lib.hid (G6.out.since hbx.out)
        clear S6 hbx G6
        clear q0 q1 q2
        obtain ⟨q0, q1, q2, _⟩ := G7.out
        dsimp only at q0 q1 q2
        go_wp2_with fail
        refine (awake_any _).mono ?_
        rintro e' W8 ⟨rfl, hb8⟩
        have S8 := Lib.hid (below_chain S7.out hb8.out)
        go_wp2_with fail
        go_ret
        exact ⟨rfl, S8⟩
end Go.Proofs.Ytgdnpgijaijlhaa
