/- WearEvens: true, whatever its arguments are. Conditions: the list's cells. -/
import Derived.Test.YtggijifealljiaaWearAwake
import Derived.Test.YtggijifealljiaaWearRows
import Derived.Test.YtggijifealljiaaEvensMath
import Derived.Test.YtggijifealljiaaShared
set_option linter.unusedVariables false
set_option linter.unusedSimpArgs false
namespace Go.Proofs.Ytggijifealljiaa
open Go.RowKit

theorem max_of (ts : Array TypeId) (ty : TypeId) (p q m : Int) (h : (q ≤ p ∧ m = p) ∨ (p ≤ q ∧ m = q)) (w : World) : (Builtin.max_ ts ty #[.int .i64 p, .int .i64 q]).run Try.prog w = .ok (.int .i64 m) w := by
  simp only [Builtin.max_]
  rcases h with ⟨h, rfl⟩ | ⟨h, rfl⟩
  · simp [Builtin.max2]; omega
  · simp [Builtin.max2]; omega
/-- The counts, and which of them count. -/
def lowsW (ws : List Int) (z : Int) : List Int := ws.map fun v => lowM v z
def butW (n : Nat) (q : Int) : List Bool := (List.range n).map fun (k : Nat) => decide ((k : Int) ≠ q)
section
variable {ws : List Int} {z q : Int} {n k : Nat}
theorem lows_len : (lowsW ws z).length = ws.length := List.length_map _
theorem but_len : (butW n q).length = n := by simp [butW]
theorem lows_next (hk : k < ws.length) : (lowsW ws z).take (k + 1) = (lowsW ws z).take k ++ [lowM (ws.getD k 0) z] := by
  unfold lowsW
  rw [List.take_add_one, List.getElem?_map, List.getD_eq_getElem?_getD, List.getElem?_eq_getElem hk]; rfl
theorem but_next (hk : k < n) : (butW n q).take (k + 1) = (butW n q).take k ++ [decide ((k : Int) ≠ q)] := by
  have h : k < (butW n q).length := by rw [but_len]; exact hk
  rw [List.take_add_one, List.getElem?_eq_getElem h]
  simp [butW]
theorem lows_small (hz : 1 ≤ z) : Small (lowsW ws z) (z - 1) := fun j => by
  unfold lowsW
  rw [List.getD_eq_getElem?_getD, List.getElem?_map]
  cases ws[j]? with
  | none => simp; omega
  | some v => have := lowM_bd v z hz; simp; omega
end
section
variable {ws : List Int} {cs : List Bool} {n k : Nat}
theorem leastW_of (hl : ws.length = n) (hc : cs.length = n) : leastW ws cs = leastN ws cs n := by unfold leastW; rw [if_pos (hl.trans hc.symm), hl]
theorem spread_none (h : leastW ws cs = -1) : spreadW ws cs = 0 := by unfold spreadW; rw [h]; rfl
theorem orderI_none (hl : ws.length = n) (hc : cs.length = n) (h : ∀ j, j < n → isC cs j = false) : orderI ws cs = [] := by
  unfold orderI orderW
  rw [if_pos (hl.trans hc.symm), hl, order_none.2 h]; rfl
end
set_option maxHeartbeats 32000000 in
set_option maxRecDepth 20000 in
theorem evens_law (A : Option Addr) (n c : Nat) (ws : List Int) (x : Int) (w : World) (hn : n ≤ 9223372036854775807) (hA : intK.Lie w w.heap.size A n ws) :
    Calls Try.prog 4 #[.slice A n c, .int .i64 x] w (SaysB w true) := by
  have HA := Lib.hid hA
  have HAL := Lib.hid hA.len
  clear hA
  by_cases h10 : 10 < n
  · go_enter Try.func4, Try.ntmps4
    go_wp2_with fail
    refine (wawake_any _).mono ?_
    rintro e W1 ⟨rfl, hb⟩
    go_wp2_with fail
    go_ret
    exact ⟨rfl, hb⟩
  by_cases h0 : n = 0
  · subst h0
    go_enter Try.func4, Try.ntmps4
    go_wp2_with fail
    refine (wawake_any _).mono ?_
    rintro e W1 ⟨rfl, hb⟩
    go_wp2_with fail
    go_ret
    exact ⟨rfl, hb⟩
  have hn10 : n ≤ 10 := by omega
  have hn1 : 1 ≤ n := by omega
  clear h10 hn
  obtain ⟨q, HQ⟩ : ∃ q, Hid (lowM x 12 = q) := ⟨_, rfl⟩
  obtain ⟨us, HU⟩ : ∃ us, Hid (lowsW ws 21 = us) := ⟨_, rfl⟩
  obtain ⟨cs, HC⟩ : ∃ cs, Hid (butW n q = cs) := ⟨_, rfl⟩
  have HUL : Hid (us.length = n) := by show _ = _; rw [← HU.out, lows_len]; exact HAL.out
  have HCL : Hid (cs.length = n) := by show _ = _; rw [← HC.out, but_len]
  have HUS : Hid (Small us 20) := by show Small _ _; rw [← HU.out]; exact lows_small (by omega)
  obtain ⟨M, m0, hev, hm0, hmM, hsp⟩ := evens_start HUL.out HCL.out.symm hn10 HUS.out
  have HEV := Lib.hid hev
  have HM0 := Lib.hid hm0
  have HMM := Lib.hid hmM
  obtain ⟨was, HWAS⟩ : ∃ v, Hid (spreadW us cs = v) := ⟨_, rfl⟩
  have HWM : Hid (was = M - m0) := HWAS.out.symm.trans hsp
  have hwas0 : 0 ≤ was := by rw [← HWAS.out]; exact spread_nonneg
  clear hev hm0 hmM hsp
  obtain ⟨mx, HMX, hmx⟩ : ∃ mx : Int, Hid (mx = max was 1) ∧ (∀ ts ty w, (Builtin.max_ ts ty #[.int .i64 was, .int .i64 1]).run Try.prog w = .ok (.int .i64 mx) w) := by
    by_cases h : (1 : Int) ≤ was
    · exact ⟨was, by show _ = _; omega, fun ts ty w => max_of ts ty _ _ _ (Or.inl ⟨h, rfl⟩) w⟩
    · exact ⟨1, by show _ = _; omega, fun ts ty w => max_of ts ty _ _ _ (Or.inr ⟨by omega, rfl⟩) w⟩
  have S0 : Hid (Below w.heap.size w w) := Below.refl _ _
  have hne : ((n : Int) == 0) = false := by simp; omega
  have hn10' : (n : Int) ≤ 10 := by omega
  go_enter Try.func4, Try.ntmps4
  go_wp2_with (simp only [hne])
  clear hne
  go_loopw [5, 6, 7] (fun t5 t6 t7 wr => ∃ (k : Nat) (A5 : Option Addr) (c5 : Nat) (A6 : Option Addr) (c6 : Nat), t5 = .slice A5 k c5 ∧ t6 = .slice A6 k c6 ∧ t7 = .int .i64 k ∧ k ≤ n ∧ Hid (Pair wr w.heap.size A5 k c5 (us.take k) A6 k c6 (cs.take k)) ∧ Hid (Below w.heap.size w wr)) (fun _ _ t7 _ => n - (intOf t7).toNat)
  case atStart => exact ⟨0, none, 0, none, 0, rfl, rfl, rfl, Nat.zero_le _, ⟨Kind.Row.none_, Kind.Row.none_⟩, S0⟩
  case round =>
    clear S0
    obtain ⟨Wa, rfl⟩ : ∃ Wa, Wa = wr := ⟨_, rfl⟩
    obtain ⟨k, A5, c5, A6, c6, rfl, rfl, rfl, hk, HP, HB⟩ := hrel
    have k0 : (0 : Int) ≤ (k : Int) := by omega
    by_cases hlt : k < n
    · skip
      have k1 : (k : Int) < (n : Int) := by omega
      obtain ⟨ad, had, hblk, hc⟩ := int_at (HA.out.since HB.out) hlt
      subst had
      obtain ⟨y, HY⟩ : ∃ y, Hid (ws.getD k 0 = y) := ⟨_, rfl⟩
      rw [HY.out] at hc
      obtain ⟨v, HV⟩ : ∃ v, Hid (lowM y 21 = v) := ⟨_, rfl⟩
      have hv := lowM_bd y 21 (by omega)
      rw [HV.out] at hv
      have HUN : Hid (us.take (k + 1) = us.take k ++ [v]) := by show _ = _; rw [← HU.out, ← HV.out, ← HY.out]; exact lows_next (by rw [HAL.out]; exact hlt)
      obtain ⟨A8, c8, W8, hr8, ho8, hg8⟩ := Kind.append_one_b (K := intK) HB.out.size HP.out.a v ⟨by omega, by omega⟩ #[.int .i64 v] rfl (by omega)
      have R8 := Lib.hid hr8
      have P8 := Lib.hid (HP.out.snocA ho8 hg8)
      rw [← HUN.out] at P8
      have B8 := Lib.hid (HB.out.grown hg8 HB.out.size (fun b hb => (HP.out.a.row.lt b hb).1))
      clear hr8 ho8 hg8 HP HB hv HUN
      by_cases he : (k : Int) = q
      · skip
        have HCN : Hid (cs.take (k + 1) = cs.take k ++ [false]) := by show _ = _; rw [← HC.out, but_next hlt, decide_eq_false (by simpa using he)]
        have HE1 : Hid ((((k : Int)) == q) = true) := by show _ = _; simpa using he
        have HE2 : Hid (((k : Int) != q) = false) := by show _ = _; simpa using he
        clear he
        obtain ⟨A9, c9, W9, hr9, ho9, hg9⟩ := Kind.append_one_b (K := boolK) B8.out.size P8.out.b false trivial #[.bool false] rfl (by omega)
        have R9 := Lib.hid hr9
        have P9 := Lib.hid (P8.out.snocB ho9 hg9)
        rw [← HCN.out] at P9
        have B9 := Lib.hid (B8.out.grown hg9 B8.out.size (fun b hb => (P8.out.b.row.lt b hb).1))
        clear hr9 ho9 hg9 P8 B8 HCN
        go_wp2_with fail
        refine (low_any y 21 (by omega) (by omega) _).mono ?_
        rw [HV.out]
        rintro e w' ⟨rfl, rfl⟩
        go_wp2_with (at_builtin; refine wpList_append_run rfl (.tmp 27) (.tmp 33) 22 rfl rfl rfl R8.out ?_)
        refine (low_any x 12 (by omega) (by omega) _).mono ?_
        rw [HQ.out]
        rintro e w' ⟨rfl, rfl⟩
        go_wp2_with (first | (simp only [HE1.out, HE2.out, Bool.not_true, Bool.not_false]) | (at_builtin; refine wpList_append_run rfl (.tmp 35) (.tmp 40) 23 rfl rfl rfl R9.out ?_))
        go_roundw
        case rel => exact ⟨k + 1, A8, c8, A9, c9, rfl, rfl, by go_num, by omega, P9, B9⟩
        case measure => simp [intOf]; omega
      · skip
        have HCN : Hid (cs.take (k + 1) = cs.take k ++ [true]) := by show _ = _; rw [← HC.out, but_next hlt, decide_eq_true (by simpa using he)]
        have HE1 : Hid ((((k : Int)) == q) = false) := by show _ = _; simpa using he
        have HE2 : Hid (((k : Int) != q) = true) := by show _ = _; simpa using he
        clear he
        obtain ⟨A9, c9, W9, hr9, ho9, hg9⟩ := Kind.append_one_b (K := boolK) B8.out.size P8.out.b true trivial #[.bool true] rfl (by omega)
        have R9 := Lib.hid hr9
        have P9 := Lib.hid (P8.out.snocB ho9 hg9)
        rw [← HCN.out] at P9
        have B9 := Lib.hid (B8.out.grown hg9 B8.out.size (fun b hb => (P8.out.b.row.lt b hb).1))
        clear hr9 ho9 hg9 P8 B8 HCN
        go_wp2_with fail
        refine (low_any y 21 (by omega) (by omega) _).mono ?_
        rw [HV.out]
        rintro e w' ⟨rfl, rfl⟩
        go_wp2_with (at_builtin; refine wpList_append_run rfl (.tmp 27) (.tmp 33) 22 rfl rfl rfl R8.out ?_)
        refine (low_any x 12 (by omega) (by omega) _).mono ?_
        rw [HQ.out]
        rintro e w' ⟨rfl, rfl⟩
        go_wp2_with (first | (simp only [HE1.out, HE2.out, Bool.not_true, Bool.not_false]) | (at_builtin; refine wpList_append_run rfl (.tmp 35) (.tmp 40) 23 rfl rfl rfl R9.out ?_))
        go_roundw
        case rel => exact ⟨k + 1, A8, c8, A9, c9, rfl, rfl, by go_num, by omega, P9, B9⟩
        case measure => simp [intOf]; omega
    · skip
      obtain rfl : k = n := by omega
      rw [List.take_of_length_le (by rw [HUL.out]; exact Nat.le_refl _), List.take_of_length_le (by rw [HCL.out]; exact Nat.le_refl _)] at HP
      clear HU HC HQ HA HAL
      obtain ⟨g5, rfl⟩ := row_at_ HP.out.a hn1
      obtain ⟨g6, rfl⟩ := row_at_ HP.out.b hn1
      go_wp2_with fail
      refine (wspread_any _ k _ us _ k _ cs _ (by omega) (by omega) HP.out.two).mono ?_
      rw [HWAS.out]
      rintro e W1 ⟨rfl, hb1⟩
      have B1 := Lib.hid (below_chain HB.out hb1.out)
      have P1 := Lib.hid (HP.out.since hb1.out)
      clear hb1 HP HB
      go_wp2_with fail
      go_loopw [9] (fun t9 wr => ∃ (i : Nat) (vs : List Int), t9 = .int .i64 i ∧ i ≤ 250 ∧ Hid (Evens M us vs cs k i) ∧ Hid (Pair wr w.heap.size (some ⟨g5, 0, none⟩) k c5 vs (some ⟨g6, 0, none⟩) k c6 cs) ∧ Hid (Below w.heap.size w wr)) (fun t9 _ => 250 - (intOf t9).toNat)
      case atStart => exact ⟨0, us, rfl, Nat.zero_le _, HEV, P1, B1⟩
      case round =>
        clear P1 B1 HEV HUS
        obtain ⟨Wb, rfl⟩ : ∃ Wb, Wb = wr := ⟨_, rfl⟩
        obtain ⟨i, vs, rfl, hi, HE, HP, HB⟩ := hrel
        have i0 : (0 : Int) ≤ (i : Int) := by omega
        have HVL : Hid (vs.length = k) := HE.out.len
        by_cases hlt : i < 250
        · skip
          have i1 : (i : Int) < 250 := by omega
          have C3 := Lib.hid fun W h => wleast_any (some ⟨g5, 0, none⟩) k c5 vs (some ⟨g6, 0, none⟩) k c6 cs W (by omega) (by omega) h
          rw [leastW_of HVL.out HCL.out] at C3
          rcases least_is (ws := vs) (cs := cs) k with ⟨h1, h2⟩ | ⟨b, h1, h2⟩
          · skip
            have HS0 : Hid (spreadW vs cs = 0) := spread_none ((leastW_of HVL.out HCL.out).trans h1)
            have HO0 : Hid (orderI vs cs = []) := orderI_none HVL.out HCL.out h2
            rw [h1] at C3
            clear h1 h2 HE
            go_wp2_with fail
            refine (C3.out _ HP.out.two).mono ?_
            rintro e W3 ⟨rfl, hb3⟩
            have B3 := Lib.hid (below_chain HB.out hb3.out)
            have P3 := Lib.hid (HP.out.since hb3.out)
            clear hb3 HB HP C3
            go_wp2_with fail
            refine (wspread_any _ k _ vs _ k _ cs _ (by omega) (by omega) P3.out.two).mono ?_
            rw [HS0.out]
            rintro e W4 ⟨rfl, hb4⟩
            have B4 := Lib.hid (below_chain B3.out hb4.out)
            have P4 := Lib.hid (P3.out.since hb4.out)
            clear hb4 B3 P3
            go_wp2_with fail
            refine (worder_any _ k _ vs _ k _ cs _ (by omega) (by omega) P4.out.two).mono ?_
            rw [HO0.out]
            rintro e W5 ⟨A5, n5, c7, rfl, hr5, hb5⟩
            have B5 := Lib.hid (below_chain B4.out hb5.out)
            obtain rfl : 0 = n5 := hr5.out.len
            clear hb5 B4 P4 hr5
            go_wp2_with fail
            refine (wawake_any _).mono ?_
            rintro e W6 ⟨rfl, hb6⟩
            have B6 := Lib.hid (below_chain B5.out hb6.out)
            go_wp2_with fail
            go_ret
            exact ⟨rfl, B6⟩
          · skip
            have hbk : b < k := h2.lt
            have b0 : (0 : Int) ≤ (b : Int) := by omega
            have b1 : (b : Int) < (k : Int) := by omega
            have hcb : cs.getD b false = true := h2.is
            have HN := Lib.hid (HE.out.step hlt h2)
            obtain ⟨y, HY⟩ : ∃ y, Hid (vs.getD b 0 = y) := ⟨_, rfl⟩
            have hy : 0 ≤ y ∧ y ≤ 270 := by have := HE.out.small b; rw [HY.out] at this; omega
            rw [HY.out] at HN
            obtain ⟨vs2, HV2⟩ : ∃ l, Hid (vs.set b (y + 1) = l) := ⟨_, rfl⟩
            rw [HV2.out] at HN
            obtain ⟨s2, HS2⟩ : ∃ s, Hid (spreadW vs2 cs = s) := ⟨_, rfl⟩
            have hs2 : s2 ≤ mx := by
              have := HN.out.spread (by omega) HCL.out.symm m0 HM0.out HMM.out
              rw [HS2.out] at this
              rw [HMX.out, HWM.out]; exact this
            rw [h1] at C3
            clear h1 h2 HE
            go_wp2_with fail
            refine (C3.out _ HP.out.two).mono ?_
            rintro e W3 ⟨rfl, hb3⟩
            have B3 := Lib.hid (below_chain HB.out hb3.out)
            have P3 := Lib.hid (HP.out.since hb3.out)
            clear hb3 HB HP C3
            have hc1 := ints_cell P3.out.a hbk
            rw [HY.out] at hc1
            have hc2 := bools_cell P3.out.b hbk
            rw [hcb] at hc2
            have hfree := P3.out.a.row.frozenAt b
            have P4 := Lib.hid (P3.out.put hbk (y + 1) ⟨by omega, by omega⟩)
            rw [HV2.out] at P4
            have B4 : Hid (Below w.heap.size w (W3.setCell ⟨g5, b, none⟩ (.int .i64 (y + 1)))) := B3.out.grown (setCell_else W3 ⟨g5, b, none⟩ _) B3.out.size (fun b' hb' => by
              obtain rfl := Option.some.inj hb'
              exact (P3.out.a.row.lt g5 rfl).1)
            clear P3 B3
            go_wp2_with fail
            clear hc1 hc2 hfree
            refine (wspread_any _ k _ vs2 _ k _ cs _ (by omega) (by omega) P4.out.two).mono ?_
            rw [HS2.out]
            rintro e W5 ⟨rfl, hb5⟩
            have B5 := Lib.hid (below_chain B4.out hb5.out)
            have P5 := Lib.hid (P4.out.since hb5.out)
            clear hb5 B4 P4
            go_wp2_with (first | (at_builtin; simp only [hmx]) | (simp only [hmx]))
            go_roundw
            case rel => exact ⟨i + 1, vs2, by go_num, by omega, HN, P5, B5⟩
            case measure => simp [intOf]; omega
        · skip
          obtain rfl : i = 250 := by omega
          have hl1 := HE.out.last HCL.out.symm
          obtain ⟨s2, HS2⟩ : ∃ s, Hid (spreadW vs cs = s) := ⟨_, rfl⟩
          rw [HS2.out] at hl1
          have HUN : Hid (decide (4 < spreadW vs cs) = false) := by show _ = _; rw [HS2.out]; exact decide_eq_false (by omega)
          clear HE
          go_wp2_with fail
          refine (wspread_any _ k _ vs _ k _ cs _ (by omega) (by omega) HP.out.two).mono ?_
          rw [HS2.out]
          rintro e W4 ⟨rfl, hb4⟩
          have B4 := Lib.hid (below_chain HB.out hb4.out)
          have P4 := Lib.hid (HP.out.since hb4.out)
          clear hb4 HB HP
          go_wp2_with fail
          refine (wuneven_any _ k _ vs _ k _ cs _ (by omega) (by omega) P4.out.two).mono ?_
          rw [HUN.out]
          rintro e W5 ⟨rfl, hb5⟩
          have B5 := Lib.hid (below_chain B4.out hb5.out)
          clear hb5 B4 P4
          go_wp2_with fail
          refine (wawake_any _).mono ?_
          rintro e W6 ⟨rfl, hb6⟩
          have B6 := Lib.hid (below_chain B5.out hb6.out)
          go_wp2_with fail
          go_ret
          exact ⟨rfl, B6⟩
end Go.Proofs.Ytggijifealljiaa
