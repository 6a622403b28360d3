/- The landed wear: the first one of those that none is ahead of. Conditions: the lists' cells; at most 100 blocks. -/
import Derived.Test.YtggijifealljiaaWearLeaf
set_option linter.unusedVariables false
set_option linter.unusedSimpArgs false
namespace Go.Proofs.Ytggijifealljiaa
open Go.RowKit

set_option maxHeartbeats 4000000 in
theorem firstleast_any (A : Option Addr) (n c : Nat) (ws : List Int) (A' : Option Addr) (m c' : Nat) (cs : List Bool) (w : World) (hn : n ≤ 100) (hm : m ≤ 9223372036854775807) (h : Two2 w A n ws A' m cs) :
    Calls Try.prog 28 #[.slice A n c, .slice A' m c', .func (.func 29) #[] #[]] w (SaysI w (leastW ws cs)) := by
  have hl1 := h.a.len
  have hl2 := h.b.len
  have H := Lib.hid h
  by_cases hnm : n = m
  · subst hnm
    have HO : Hid (leastW ws cs = leastN ws cs n) := by show _ = _; unfold leastW; rw [if_pos (hl1.trans hl2.symm), hl1]
    rw [HO.out]
    clear h hl1 hl2 hm HO
    go_enter Try.func28, Try.ntmps28
    go_wp2_with fail
    go_loopw [7, 17] (fun t7 t17 wr => ∃ (k : Nat) (r : Int), t7 = .int .i64 r ∧ t17 = .int .i64 k ∧ k ≤ n ∧ Hid (r = leastN ws cs k) ∧ Hid (Below w.heap.size w wr)) (fun _ t17 _ => n - (intOf t17).toNat)
    case atStart => exact ⟨0, -1, rfl, rfl, Nat.zero_le _, rfl, Below.refl _ _⟩
    case round =>
      obtain ⟨k, r, rfl, rfl, hk, HR, HB⟩ := hrel
      have i0 : (0 : Int) ≤ (k : Int) := by omega
      by_cases hlt : k < n
      · have i1 : (k : Int) < (n : Int) := by omega
        obtain ⟨v, HV⟩ : ∃ v, Hid (isC cs k = v) := ⟨_, rfl⟩
        obtain ⟨ab, e1, _, g1⟩ := bool_at (H.out.since HB.out).b hlt
        obtain ⟨aw, e2, _, g2⟩ := int_at (H.out.since HB.out).a hlt
        rw [show cs.getD k false = v from HV.out] at g1
        obtain ⟨x, HX⟩ : ∃ x, Hid (ws.getD k 0 = x) := ⟨_, rfl⟩
        rw [HX.out] at g2
        subst e1 e2
        have HST : Hid (leastN ws cs (k + 1) = if v = true ∧ (leastN ws cs k < 0 ∨ keyW ws k < keyW ws (leastN ws cs k).toNat) then (k : Int) else leastN ws cs k) := by show _ = _; rw [← HV.out]; rfl
        rw [← HR.out] at HST
        cases v with
        | false =>
          rw [if_neg (by rintro ⟨h, _⟩; cases h)] at HST
          go_wp2_with fail
          go_quiet (fail)
          have HB2 := Lib.hid (below_drewN HB.out nq)
          clear g1 g2 HB HR
          generalize wr.drewN nq = w2 at HB2 ⊢
          clear nq
          go_wp2_with fail
          go_roundw
          case rel => exact ⟨k + 1, r, rfl, by go_num, by omega, HST.out.symm, HB2⟩
          case measure => simp [intOf]; omega
        | true =>
          by_cases hr : r < 0
          · rw [if_pos ⟨rfl, Or.inl hr⟩] at HST
            have d0 : decide (r < 0) = true := decide_eq_true hr
            go_wp2_with fail
            go_quiet (fail)
            have HB2 := Lib.hid (below_drewN HB.out nq)
            clear g1 g2 HB HR d0 hr
            generalize wr.drewN nq = w2 at HB2 ⊢
            clear nq
            go_wp2_with fail
            go_roundw
            case rel => exact ⟨k + 1, (k : Int), rfl, by go_num, by omega, HST.out.symm, HB2⟩
            case measure => simp [intOf]; omega
          · have d0 : decide (r < 0) = false := decide_eq_false hr
            have hin : ∃ z : Nat, r = (z : Int) ∧ z < n := by
              rcases least_is (ws := ws) (cs := cs) k with ⟨h1, _⟩ | ⟨z, h1, h2⟩
              · have := HR.out; omega
              · exact ⟨z, HR.out.trans h1, by have := h2.lt; omega⟩
            obtain ⟨z, rfl, hz⟩ := hin
            obtain ⟨aw', e2, _, g3⟩ := int_at (H.out.since HB.out).a hz
            obtain ⟨y, HY⟩ : ∃ y, Hid (ws.getD z 0 = y) := ⟨_, rfl⟩
            rw [HY.out] at g3
            obtain rfl := Option.some.inj e2
            have j0 : (0 : Int) ≤ (z : Int) := by omega
            have j1 : (z : Int) < (n : Int) := by omega
            obtain ⟨kx, HKX⟩ : ∃ q, Hid (wornM x = q) := ⟨_, rfl⟩
            obtain ⟨ky, HKY⟩ : ∃ q, Hid (wornM y = q) := ⟨_, rfl⟩
            rw [Int.toNat_natCast, show keyW ws k = kx by unfold keyW; rw [HX.out, HKX.out], show keyW ws z = ky by unfold keyW; rw [HY.out, HKY.out]] at HST
            have E1 : ∀ W, Calls Try.prog 26 #[.int .i64 x] W fun e w' => e = .returned (.int .i64 kx) ∧ w' = W := fun W => by
              rw [← HKX.out]; exact erases_any x W
            have E2 : ∀ W, Calls Try.prog 26 #[.int .i64 y] W fun e w' => e = .returned (.int .i64 ky) ∧ w' = W := fun W => by
              rw [← HKY.out]; exact erases_any y W
            obtain ⟨t, HT⟩ : ∃ t, Hid (decide (kx < ky) = t) := ⟨_, rfl⟩
            have E3 : ∀ W, Calls Try.prog 29 #[.int .i64 kx, .int .i64 ky] W fun e w' => e = .returned (.bool t) ∧ w' = W := fun W => by
              rw [← HT.out]; exact less1_any kx ky W
            have HE1 := Lib.hid E1
            have HE2 := Lib.hid E2
            have HE3 := Lib.hid E3
            clear E1 E2 E3
            cases t with
            | false =>
              have hv : ¬ (kx < ky) := of_decide_eq_false HT.out
              rw [if_neg (by rintro ⟨_, h | h⟩; exact hr h; exact hv h)] at HST
              clear hv
              go_wp2_with fail
              go_quiet (first | (go_at_call 29; refine Calls.quiet_of_same (HE3.out _)) | (go_at_call_of 26 (Value.int IntKind.i64 x); refine Calls.quiet_of_same (HE1.out _)) | (go_at_call 26; refine Calls.quiet_of_same (HE2.out _)))
              have HB2 := Lib.hid (below_drewN HB.out nq)
              clear g1 g2 g3 HB HR d0 HE1 HE2 HE3
              generalize wr.drewN nq = w2 at HB2 ⊢
              clear nq
              go_wp2_with fail
              go_roundw
              case rel => exact ⟨k + 1, (z : Int), rfl, by go_num, by omega, HST.out.symm, HB2⟩
              case measure => simp [intOf]; omega
            | true =>
              have hv : kx < ky := of_decide_eq_true HT.out
              rw [if_pos ⟨rfl, Or.inr hv⟩] at HST
              clear hv
              go_wp2_with fail
              go_quiet (first | (go_at_call 29; refine Calls.quiet_of_same (HE3.out _)) | (go_at_call_of 26 (Value.int IntKind.i64 x); refine Calls.quiet_of_same (HE1.out _)) | (go_at_call 26; refine Calls.quiet_of_same (HE2.out _)))
              have HB2 := Lib.hid (below_drewN HB.out nq)
              clear g1 g2 g3 HB HR d0 HE1 HE2 HE3
              generalize wr.drewN nq = w2 at HB2 ⊢
              clear nq
              go_wp2_with fail
              go_roundw
              case rel => exact ⟨k + 1, (k : Int), rfl, by go_num, by omega, HST.out.symm, HB2⟩
              case measure => simp [intOf]; omega
      · obtain rfl : k = n := by omega
        go_wp2_with fail
        go_ret
        exact ⟨by rw [← HR.out]; rfl, HB⟩
  · have HO : Hid (leastW ws cs = -1) := by show _ = _; unfold leastW; rw [if_neg (by omega)]
    rw [HO.out]
    have hz : ((n : Int) != (m : Int)) = true := by simp; omega
    have hz2 : ¬ (n : Int) = (m : Int) := by omega
    clear h hl1 hl2 HO
    go_enter Try.func28, Try.ntmps28
    go_wp2_with fail
    go_ret
    exact ⟨rfl, Below.refl _ _⟩
set_option maxHeartbeats 4000000 in
theorem firstgreat_any (A : Option Addr) (n c : Nat) (ws : List Int) (A' : Option Addr) (m c' : Nat) (cs : List Bool) (w : World) (hn : n ≤ 100) (hm : m ≤ 9223372036854775807) (h : Two2 w A n ws A' m cs) :
    Calls Try.prog 28 #[.slice A n c, .slice A' m c', .func (.func 30) #[] #[]] w (SaysI w (greatW ws cs)) := by
  have hl1 := h.a.len
  have hl2 := h.b.len
  have H := Lib.hid h
  by_cases hnm : n = m
  · subst hnm
    have HO : Hid (greatW ws cs = greatN ws cs n) := by show _ = _; unfold greatW; rw [if_pos (hl1.trans hl2.symm), hl1]
    rw [HO.out]
    clear h hl1 hl2 hm HO
    go_enter Try.func28, Try.ntmps28
    go_wp2_with fail
    go_loopw [7, 17] (fun t7 t17 wr => ∃ (k : Nat) (r : Int), t7 = .int .i64 r ∧ t17 = .int .i64 k ∧ k ≤ n ∧ Hid (r = greatN ws cs k) ∧ Hid (Below w.heap.size w wr)) (fun _ t17 _ => n - (intOf t17).toNat)
    case atStart => exact ⟨0, -1, rfl, rfl, Nat.zero_le _, rfl, Below.refl _ _⟩
    case round =>
      obtain ⟨k, r, rfl, rfl, hk, HR, HB⟩ := hrel
      have i0 : (0 : Int) ≤ (k : Int) := by omega
      by_cases hlt : k < n
      · have i1 : (k : Int) < (n : Int) := by omega
        obtain ⟨v, HV⟩ : ∃ v, Hid (isC cs k = v) := ⟨_, rfl⟩
        obtain ⟨ab, e1, _, g1⟩ := bool_at (H.out.since HB.out).b hlt
        obtain ⟨aw, e2, _, g2⟩ := int_at (H.out.since HB.out).a hlt
        rw [show cs.getD k false = v from HV.out] at g1
        obtain ⟨x, HX⟩ : ∃ x, Hid (ws.getD k 0 = x) := ⟨_, rfl⟩
        rw [HX.out] at g2
        subst e1 e2
        have HST : Hid (greatN ws cs (k + 1) = if v = true ∧ (greatN ws cs k < 0 ∨ keyW ws (greatN ws cs k).toNat < keyW ws k) then (k : Int) else greatN ws cs k) := by show _ = _; rw [← HV.out]; rfl
        rw [← HR.out] at HST
        cases v with
        | false =>
          rw [if_neg (by rintro ⟨h, _⟩; cases h)] at HST
          go_wp2_with fail
          go_quiet (fail)
          have HB2 := Lib.hid (below_drewN HB.out nq)
          clear g1 g2 HB HR
          generalize wr.drewN nq = w2 at HB2 ⊢
          clear nq
          go_wp2_with fail
          go_roundw
          case rel => exact ⟨k + 1, r, rfl, by go_num, by omega, HST.out.symm, HB2⟩
          case measure => simp [intOf]; omega
        | true =>
          by_cases hr : r < 0
          · rw [if_pos ⟨rfl, Or.inl hr⟩] at HST
            have d0 : decide (r < 0) = true := decide_eq_true hr
            go_wp2_with fail
            go_quiet (fail)
            have HB2 := Lib.hid (below_drewN HB.out nq)
            clear g1 g2 HB HR d0 hr
            generalize wr.drewN nq = w2 at HB2 ⊢
            clear nq
            go_wp2_with fail
            go_roundw
            case rel => exact ⟨k + 1, (k : Int), rfl, by go_num, by omega, HST.out.symm, HB2⟩
            case measure => simp [intOf]; omega
          · have d0 : decide (r < 0) = false := decide_eq_false hr
            have hin : ∃ z : Nat, r = (z : Int) ∧ z < n := by
              rcases great_is (ws := ws) (cs := cs) k with ⟨h1, _⟩ | ⟨z, h1, h2⟩
              · have := HR.out; omega
              · exact ⟨z, HR.out.trans h1, by have := h2.lt; omega⟩
            obtain ⟨z, rfl, hz⟩ := hin
            obtain ⟨aw', e2, _, g3⟩ := int_at (H.out.since HB.out).a hz
            obtain ⟨y, HY⟩ : ∃ y, Hid (ws.getD z 0 = y) := ⟨_, rfl⟩
            rw [HY.out] at g3
            obtain rfl := Option.some.inj e2
            have j0 : (0 : Int) ≤ (z : Int) := by omega
            have j1 : (z : Int) < (n : Int) := by omega
            obtain ⟨kx, HKX⟩ : ∃ q, Hid (wornM x = q) := ⟨_, rfl⟩
            obtain ⟨ky, HKY⟩ : ∃ q, Hid (wornM y = q) := ⟨_, rfl⟩
            rw [Int.toNat_natCast, show keyW ws k = kx by unfold keyW; rw [HX.out, HKX.out], show keyW ws z = ky by unfold keyW; rw [HY.out, HKY.out]] at HST
            have E1 : ∀ W, Calls Try.prog 26 #[.int .i64 x] W fun e w' => e = .returned (.int .i64 kx) ∧ w' = W := fun W => by
              rw [← HKX.out]; exact erases_any x W
            have E2 : ∀ W, Calls Try.prog 26 #[.int .i64 y] W fun e w' => e = .returned (.int .i64 ky) ∧ w' = W := fun W => by
              rw [← HKY.out]; exact erases_any y W
            obtain ⟨t, HT⟩ : ∃ t, Hid (decide (ky < kx) = t) := ⟨_, rfl⟩
            have E3 : ∀ W, Calls Try.prog 30 #[.int .i64 kx, .int .i64 ky] W fun e w' => e = .returned (.bool t) ∧ w' = W := fun W => by
              rw [← HT.out]; exact more1_any kx ky W
            have HE1 := Lib.hid E1
            have HE2 := Lib.hid E2
            have HE3 := Lib.hid E3
            clear E1 E2 E3
            cases t with
            | false =>
              have hv : ¬ (ky < kx) := of_decide_eq_false HT.out
              rw [if_neg (by rintro ⟨_, h | h⟩; exact hr h; exact hv h)] at HST
              clear hv
              go_wp2_with fail
              go_quiet (first | (go_at_call 30; refine Calls.quiet_of_same (HE3.out _)) | (go_at_call_of 26 (Value.int IntKind.i64 x); refine Calls.quiet_of_same (HE1.out _)) | (go_at_call 26; refine Calls.quiet_of_same (HE2.out _)))
              have HB2 := Lib.hid (below_drewN HB.out nq)
              clear g1 g2 g3 HB HR d0 HE1 HE2 HE3
              generalize wr.drewN nq = w2 at HB2 ⊢
              clear nq
              go_wp2_with fail
              go_roundw
              case rel => exact ⟨k + 1, (z : Int), rfl, by go_num, by omega, HST.out.symm, HB2⟩
              case measure => simp [intOf]; omega
            | true =>
              have hv : ky < kx := of_decide_eq_true HT.out
              rw [if_pos ⟨rfl, Or.inr hv⟩] at HST
              clear hv
              go_wp2_with fail
              go_quiet (first | (go_at_call 30; refine Calls.quiet_of_same (HE3.out _)) | (go_at_call_of 26 (Value.int IntKind.i64 x); refine Calls.quiet_of_same (HE1.out _)) | (go_at_call 26; refine Calls.quiet_of_same (HE2.out _)))
              have HB2 := Lib.hid (below_drewN HB.out nq)
              clear g1 g2 g3 HB HR d0 HE1 HE2 HE3
              generalize wr.drewN nq = w2 at HB2 ⊢
              clear nq
              go_wp2_with fail
              go_roundw
              case rel => exact ⟨k + 1, (k : Int), rfl, by go_num, by omega, HST.out.symm, HB2⟩
              case measure => simp [intOf]; omega
      · obtain rfl : k = n := by omega
        go_wp2_with fail
        go_ret
        exact ⟨by rw [← HR.out]; rfl, HB⟩
  · have HO : Hid (greatW ws cs = -1) := by show _ = _; unfold greatW; rw [if_neg (by omega)]
    rw [HO.out]
    have hz : ((n : Int) != (m : Int)) = true := by simp; omega
    have hz2 : ¬ (n : Int) = (m : Int) := by omega
    clear h hl1 hl2 HO
    go_enter Try.func28, Try.ntmps28
    go_wp2_with fail
    go_ret
    exact ⟨rfl, Below.refl _ _⟩
end Go.Proofs.Ytggijifealljiaa
