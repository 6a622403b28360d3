/- WearShifts: true, whatever its arguments are. Conditions: the list's cells. -/
import Derived.Test.YtggijifealljiaaLawEvens
import Derived.Test.YtggijifealljiaaShiftsMath
set_option linter.unusedVariables false
set_option linter.unusedSimpArgs false
namespace Go.Proofs.Ytggijifealljiaa
open Go.RowKit

theorem low_big (x : Int) (w : World) : Calls Try.prog 22 #[.int .i64 x, .int .i64 1048576] w fun e w' => e = .returned (.int .i64 (lowM x 1048576)) ∧ w = w' := by
  have h0 : 0 ≤ IntKind.u64.wrap x := by rw [IntKind.wrap_u64]; omega
  have h2 := Int.emod_nonneg (IntKind.u64.wrap x) (show (1048576 : Int) ≠ 0 by omega)
  have h3 := Int.emod_lt_of_pos (IntKind.u64.wrap x) (show (0 : Int) < 1048576 by omega)
  go_enter Try.func22, Try.ntmps22
  go_wp2
  go_ret
  exact ⟨rfl, rfl⟩
def shiftW (xa : List Int) (d : Int) : List Int := xa.map (· + d)
section
variable {xa : List Int} {d y : Int} {n k q : Nat} {cs : List Bool}
theorem shift_len : (shiftW xa d).length = xa.length := List.length_map _
theorem shift_next {us : List Int} {v : Int} (h : xa.take (k + 1) = us ++ [v]) (hu : us = xa.take k) : (shiftW xa d).take (k + 1) = (shiftW xa d).take k ++ [v + d] := by
  subst hu
  unfold shiftW
  rw [← List.map_take, ← List.map_take, h, List.map_append]; rfl
theorem but_is (hk : k < n) : isC (butW n (q : Int)) k = decide (k ≠ q) := by
  unfold isC butW
  rw [List.getD_eq_getElem?_getD, List.getElem?_map, List.getElem?_range hk]
  simp
  omega
theorem shift_alike (hs : Small xa 999) (hd : 0 ≤ d) (hd2 : d ≤ 999) (hl : xa.length = n) (hc : cs.length = n) : Alike d xa (shiftW xa d) cs n :=
  ⟨hl, shift_len.trans hl, hc, fun i hi _ => by
    have h1 := hs i
    have e : (shiftW xa d).getD i 0 = xa.getD i 0 + d := by
      unfold shiftW
      rw [List.getD_eq_getElem?_getD, List.getElem?_map, List.getD_eq_getElem?_getD, List.getElem?_eq_getElem (show i < xa.length by omega)]; rfl
    unfold keyW
    rw [e, worn_id (by omega) (by omega), worn_id (by omega) (by omega)]⟩
theorem out_alike (hl : xa.length = n) : Alike 0 xa (xa.set q y) (butW n (q : Int)) n :=
  ⟨hl, by rw [List.length_set]; exact hl, but_len, fun i hi hc => by
    rw [but_is hi] at hc
    have hne : i ≠ q := by simpa using hc
    unfold keyW
    rw [List.getD_eq_getElem?_getD, List.getElem?_set_ne (Ne.symm hne), ← List.getD_eq_getElem?_getD, Int.add_zero]⟩
end
/-- The three rows. -/
structure Tri (w : World) (base : Nat) (A : Option Addr) (n c : Nat) (xs : List Int) (B : Option Addr) (m d : Nat) (ys : List Int) (C : Option Addr) (k e : Nat) (cs : List Bool) : Prop where
  p : Pair w base A n c xs C k e cs
  q : intK.Row w base B m d ys
  two : ∀ b ∈ blk A, b ∉ blk B
theorem Tri.since {w w' : World} {base n c m d k e : Nat} {A B C : Option Addr} {xs ys : List Int} {cs : List Bool} (h : Tri w base A n c xs B m d ys C k e cs) (hb : Below w.heap.size w w') : Tri w' base A n c xs B m d ys C k e cs := ⟨h.p.since hb, h.q.since hb, h.two⟩
theorem Tri.snoc {w w' : World} {base n c m d k e k2 e2 : Nat} {A B C C2 : Option Addr} {xs ys : List Int} {cs ds : List Bool} (h : Tri w base A n c xs B m d ys C k e cs) (hr : boolK.Row w' base C2 k2 e2 ds) (hg : w.grownBy w' (Value.slice C k e).ownBlock) : Tri w' base A n c xs B m d ys C2 k2 e2 ds := ⟨h.p.snocB hr hg, row_grown int_bool.symm h.p.b h.q hg, h.two⟩
theorem Tri.first {w : World} {base n c m d k e : Nat} {A B C : Option Addr} {xs ys : List Int} {cs : List Bool} (h : Tri w base A n c xs B m d ys C k e cs) (hb : base ≤ w.heap.size) (v : Int) (hv : intK.wf v) (hn : n + 1 ≤ 8000) :
    ∃ A2 c2 W2, (Builtin.append_ #[22, 22] 22 #[.slice A n c, .slice (some ⟨w.heap.size, 0, none⟩) 1 1]).run Try.prog (w.alloc (.cells #[.int .i64 v] 3)) = .ok (.slice A2 (n + 1) c2) W2 ∧ Tri W2 base A2 (n + 1) c2 (xs ++ [v]) B m d ys C k e cs ∧ w.grownBy W2 (Value.slice A n c).ownBlock := by
  obtain ⟨A2, c2, W2, hr, ho, hg, hat⟩ := Kind.append_one_at (K := intK) hb h.p.a v hv #[.int .i64 v] rfl hn
  refine ⟨A2, c2, W2, hr, ⟨h.p.snocA ho hg, Row.at_block h.q fun b hb => hg.block b (Row.blk_lt h.q b hb) fun e => h.two b (own_blk.1 e.symm) hb, fun b h1 h2 => ?_⟩, hg⟩
  rcases hat b (own_blk.2 h1) with h3 | h3
  · exact h.two b (own_blk.1 h3) h2
  · have := Row.blk_lt h.q b h2; omega
theorem Tri.second {w : World} {base n c m d k e : Nat} {A B C : Option Addr} {xs ys : List Int} {cs : List Bool} (h : Tri w base A n c xs B m d ys C k e cs) (hb : base ≤ w.heap.size) (v : Int) (hv : intK.wf v) (hn : m + 1 ≤ 8000) :
    ∃ A2 c2 W2, (Builtin.append_ #[22, 22] 22 #[.slice B m d, .slice (some ⟨w.heap.size, 0, none⟩) 1 1]).run Try.prog (w.alloc (.cells #[.int .i64 v] 3)) = .ok (.slice A2 (m + 1) c2) W2 ∧ Tri W2 base A n c xs A2 (m + 1) c2 (ys ++ [v]) C k e cs ∧ w.grownBy W2 (Value.slice B m d).ownBlock := by
  obtain ⟨A2, c2, W2, hr, ho, hg, hat⟩ := Kind.append_one_at (K := intK) hb h.q v hv #[.int .i64 v] rfl hn
  refine ⟨A2, c2, W2, hr, ⟨⟨Row.at_block h.p.a fun b hb => hg.block b (Row.blk_lt h.p.a b hb) fun e => h.two b hb (own_blk.1 e.symm), row_grown int_bool h.q h.p.b hg⟩, ho, fun b h1 h2 => ?_⟩, hg⟩
  rcases hat b (own_blk.2 h2) with h3 | h3
  · exact h.two b h1 (own_blk.1 h3)
  · have := Row.blk_lt h.p.a b h1; omega
set_option maxHeartbeats 64000000 in
set_option maxRecDepth 20000 in
theorem shifts_law (A : Option Addr) (n c : Nat) (ws : List Int) (x1 x2 x3 : Int) (w : World) (hn : n ≤ 9223372036854775807) (hA : intK.Lie w w.heap.size A n ws) :
    Calls Try.prog 5 #[.slice A n c, .int .i64 x1, .int .i64 x2, .int .i64 x3] w (SaysB w true) := by
  have HA := Lib.hid hA
  have HAL := Lib.hid hA.len
  clear hA
  by_cases h20 : 20 < n
  · go_enter Try.func5, Try.ntmps5
    go_wp2_with fail
    refine (wawake_any _).mono ?_
    rintro e W1 ⟨rfl, hb⟩
    go_wp2_with fail
    go_ret
    exact ⟨rfl, hb⟩
  by_cases h0 : n = 0
  · subst h0
    go_enter Try.func5, Try.ntmps5
    go_wp2_with fail
    refine (wawake_any _).mono ?_
    rintro e W1 ⟨rfl, hb⟩
    go_wp2_with fail
    go_ret
    exact ⟨rfl, hb⟩
  have hn20 : n ≤ 20 := by omega
  have hn1 : 1 ≤ n := by omega
  clear h20 hn
  obtain ⟨d, HD⟩ : ∃ d, Hid (lowM x1 1000 = d) := ⟨_, rfl⟩
  have hd := lowM_bd x1 1000 (by omega)
  rw [HD.out] at hd
  obtain ⟨q, HQ⟩ : ∃ q : Nat, Hid (lowM x2 n = (q : Int)) := ⟨(lowM x2 n).toNat, by have := lowM_bd x2 n (by omega); show _ = _; omega⟩
  have hq : q < n := by have := lowM_bd x2 n (by omega); have := HQ.out; omega
  obtain ⟨mu, HMU⟩ : ∃ v, Hid (lowM x3 1048576 = v) := ⟨_, rfl⟩
  have hmu := lowM_bd x3 1048576 (by omega)
  rw [HMU.out] at hmu
  obtain ⟨xs, HX⟩ : ∃ us, Hid (lowsW ws 1000 = us) := ⟨_, rfl⟩
  obtain ⟨ys, HYS⟩ : ∃ us, Hid (shiftW xs d = us) := ⟨_, rfl⟩
  obtain ⟨zs, HZS⟩ : ∃ us, Hid (xs.set q mu = us) := ⟨_, rfl⟩
  obtain ⟨cs, HC⟩ : ∃ cs, Hid (butW n (q : Int) = cs) := ⟨_, rfl⟩
  have HXL : Hid (xs.length = n) := by show _ = _; rw [← HX.out, lows_len]; exact HAL.out
  have HYL : Hid (ys.length = n) := by show _ = _; rw [← HYS.out, shift_len]; exact HXL.out
  have HCL : Hid (cs.length = n) := by show _ = _; rw [← HC.out, but_len]
  have HXS : Hid (Small xs 999) := by show Small _ _; rw [← HX.out]; exact lows_small (by omega)
  have HAB : Hid (Alike d xs ys cs n) := by rw [← HYS.out]; exact shift_alike HXS.out hd.1 (by omega) HXL.out HCL.out
  have HAC : Hid (Alike 0 xs zs cs n) := by rw [← HZS.out, ← HC.out]; exact out_alike HXL.out
  obtain ⟨sp, HSA⟩ : ∃ v, Hid (spreadW xs cs = v) := ⟨_, rfl⟩
  have HSB : Hid (spreadW ys cs = sp) := HAB.out.spread.trans HSA.out
  have HSC : Hid (spreadW zs cs = sp) := HAC.out.spread.trans HSA.out
  obtain ⟨os, HOA⟩ : ∃ v, Hid (orderI xs cs = v) := ⟨_, rfl⟩
  have HOB : Hid (orderI ys cs = os) := HAB.out.orderI.trans HOA.out
  obtain ⟨le, HLA⟩ : ∃ v, Hid (leastW xs cs = v) := ⟨_, rfl⟩
  have HLC : Hid (leastW zs cs = le) := HAC.out.leastW.trans HLA.out
  have HOL : Hid (os.length = n - 1) := by
    have h1 := order_but xs cs q n fun i hi => by rw [← HC.out]; exact but_is hi
    show _ = _
    rw [← HOA.out]
    unfold orderI orderW
    rw [List.length_map, if_pos (HXL.out.trans HCL.out.symm), HXL.out, h1, if_neg (by omega)]
  clear HAB HAC
  have S0 : Hid (Below w.heap.size w w) := Below.refl _ _
  have hne : ((n : Int) == 0) = false := by simp; omega
  have hn20' : (n : Int) ≤ 20 := by omega
  go_enter Try.func5, Try.ntmps5
  go_wp2_with (simp only [hne])
  clear hne
  refine (low_any x1 1000 (by omega) (by omega) _).mono ?_
  rw [HD.out]
  rintro e w' ⟨rfl, rfl⟩
  go_wp2_with fail
  refine (low_any x2 n (by omega) (by omega) _).mono ?_
  rw [HQ.out]
  rintro e w' ⟨rfl, rfl⟩
  go_wp2_with fail
  go_loopw [9, 10, 11, 12] (fun t9 t10 t11 t12 wr => ∃ (k : Nat) (A9 : Option Addr) (c9 : Nat) (A10 : Option Addr) (c10 : Nat) (A11 : Option Addr) (c11 : Nat), t9 = .slice A9 k c9 ∧ t10 = .slice A10 k c10 ∧ t11 = .slice A11 k c11 ∧ t12 = .int .i64 k ∧ k ≤ n ∧ Hid (Tri wr w.heap.size A9 k c9 (xs.take k) A10 k c10 (ys.take k) A11 k c11 (cs.take k)) ∧ Hid (Below w.heap.size w wr)) (fun _ _ _ t12 _ => n - (intOf t12).toNat)
  case atStart => exact ⟨0, none, 0, none, 0, none, 0, rfl, rfl, rfl, rfl, Nat.zero_le _, ⟨⟨Kind.Row.none_, Kind.Row.none_⟩, Kind.Row.none_, fun b hb => by cases hb⟩, S0⟩
  case round =>
    clear S0
    obtain ⟨Wa, rfl⟩ : ∃ Wa, Wa = wr := ⟨_, rfl⟩
    obtain ⟨k, A9, c9, A10, c10, A11, c11, rfl, rfl, rfl, rfl, hk, HP, HB⟩ := hrel
    have k0 : (0 : Int) ≤ (k : Int) := by omega
    by_cases hlt : k < n
    · skip
      have k1 : (k : Int) < (n : Int) := by omega
      obtain ⟨ad, had, hblk, hc⟩ := int_at (HA.out.since HB.out) hlt
      subst had
      obtain ⟨y, HY⟩ : ∃ y, Hid (ws.getD k 0 = y) := ⟨_, rfl⟩
      rw [HY.out] at hc
      obtain ⟨v, HV⟩ : ∃ v, Hid (lowM y 1000 = v) := ⟨_, rfl⟩
      have hv := lowM_bd y 1000 (by omega)
      rw [HV.out] at hv
      have HXN : Hid (xs.take (k + 1) = xs.take k ++ [v]) := by show _ = _; rw [← HX.out, ← HV.out, ← HY.out]; exact lows_next (by rw [HAL.out]; exact hlt)
      obtain ⟨sm, HSM⟩ : ∃ s, Hid (v + d = s) := ⟨_, rfl⟩
      have hsm : 0 ≤ sm ∧ sm ≤ 2000 := by have := HSM.out; omega
      have HYN : Hid (ys.take (k + 1) = ys.take k ++ [sm]) := by show _ = _; rw [← HYS.out, ← HSM.out]; exact shift_next HXN.out rfl
      obtain ⟨B9, d9, W9, hr9, hp9, hg9⟩ := HP.out.first HB.out.size v ⟨by omega, by omega⟩ (by omega)
      have R9 := Lib.hid hr9
      have S9 := Lib.hid (HB.out.grown hg9 HB.out.size (fun b hb => (HP.out.p.a.row.lt b hb).1))
      obtain ⟨B10, d10, W10, hr10, hp10, hg10⟩ := hp9.second S9.out.size sm ⟨by omega, by omega⟩ (by omega)
      have R10 := Lib.hid hr10
      have S10 := Lib.hid (S9.out.grown hg10 S9.out.size (fun b hb => (hp9.q.row.lt b hb).1))
      have P10 := Lib.hid hp10
      rw [← HXN.out, ← HYN.out] at P10
      clear hr9 hg9 hr10 hg10 hp9 hp10 S9 HP HB HXN HYN
      by_cases he : (k : Int) = (q : Int)
      · skip
        have HCN : Hid (cs.take (k + 1) = cs.take k ++ [false]) := by show _ = _; rw [← HC.out, but_next hlt, decide_eq_false (by simpa using he)]
        have HE1 : Hid (((k : Int) == (q : Int)) = true) := by show _ = _; simpa using he
        have HE2 : Hid (((k : Int) != (q : Int)) = false) := by show _ = _; simpa using he
        clear he
        obtain ⟨A7, c7, W7, hr7, ho7, hg7⟩ := Kind.append_one_b (K := boolK) S10.out.size P10.out.p.b false trivial #[.bool false] rfl (by omega)
        have R7 := Lib.hid hr7
        have P7 := Lib.hid (P10.out.snoc ho7 hg7)
        rw [← HCN.out] at P7
        have B7 := Lib.hid (S10.out.grown hg7 S10.out.size (fun b hb => (P10.out.p.b.row.lt b hb).1))
        clear hr7 ho7 hg7 P10 S10 HCN
        go_wp2_with fail
        refine (low_any y 1000 (by omega) (by omega) _).mono ?_
        rw [HV.out]
        rintro e w' ⟨rfl, rfl⟩
        go_wp2_with (first | (simp only [HE1.out, HE2.out, Bool.not_true, Bool.not_false]) | (simp only [HSM.out]) | (at_builtin; refine wpList_append_run rfl (.tmp 41) (.tmp 43) 22 rfl rfl rfl R9.out ?_) | (at_builtin; refine wpList_append_run rfl (.tmp 45) (.tmp 49) 22 rfl rfl rfl R10.out ?_) | (at_builtin; refine wpList_append_run rfl (.tmp 51) (.tmp 55) 23 rfl rfl rfl R7.out ?_))
        go_roundw
        case rel => exact ⟨k + 1, B9, d9, B10, d10, A7, c7, rfl, rfl, rfl, by go_num, by omega, P7, B7⟩
        case measure => simp [intOf]; omega
      · skip
        have HCN : Hid (cs.take (k + 1) = cs.take k ++ [true]) := by show _ = _; rw [← HC.out, but_next hlt, decide_eq_true (by simpa using he)]
        have HE1 : Hid (((k : Int) == (q : Int)) = false) := by show _ = _; simpa using he
        have HE2 : Hid (((k : Int) != (q : Int)) = true) := by show _ = _; simpa using he
        clear he
        obtain ⟨A7, c7, W7, hr7, ho7, hg7⟩ := Kind.append_one_b (K := boolK) S10.out.size P10.out.p.b true trivial #[.bool true] rfl (by omega)
        have R7 := Lib.hid hr7
        have P7 := Lib.hid (P10.out.snoc ho7 hg7)
        rw [← HCN.out] at P7
        have B7 := Lib.hid (S10.out.grown hg7 S10.out.size (fun b hb => (P10.out.p.b.row.lt b hb).1))
        clear hr7 ho7 hg7 P10 S10 HCN
        go_wp2_with fail
        refine (low_any y 1000 (by omega) (by omega) _).mono ?_
        rw [HV.out]
        rintro e w' ⟨rfl, rfl⟩
        go_wp2_with (first | (simp only [HE1.out, HE2.out, Bool.not_true, Bool.not_false]) | (simp only [HSM.out]) | (at_builtin; refine wpList_append_run rfl (.tmp 41) (.tmp 43) 22 rfl rfl rfl R9.out ?_) | (at_builtin; refine wpList_append_run rfl (.tmp 45) (.tmp 49) 22 rfl rfl rfl R10.out ?_) | (at_builtin; refine wpList_append_run rfl (.tmp 51) (.tmp 55) 23 rfl rfl rfl R7.out ?_))
        go_roundw
        case rel => exact ⟨k + 1, B9, d9, B10, d10, A7, c7, rfl, rfl, rfl, by go_num, by omega, P7, B7⟩
        case measure => simp [intOf]; omega
    · skip
      obtain rfl : k = n := by omega
      rw [List.take_of_length_le (by rw [HXL.out]; exact Nat.le_refl _), List.take_of_length_le (by rw [HYL.out]; exact Nat.le_refl _), List.take_of_length_le (by rw [HCL.out]; exact Nat.le_refl _)] at HP
      clear HX HC HD HQ HA HAL HYS HXS
      have hq0 : (0 : Int) ≤ (q : Int) := by omega
      have hq1 : (q : Int) < (k : Int) := by omega
      obtain ⟨A14, c14, W14, hr14, ho14, hg14⟩ := Kind.append_b (K := intK) (base := Wa.heap.size) (c' := c9) (Nat.le_refl _) (Kind.Row.none_ (K := intK)) HP.out.p.a.lie (by omega)
      rw [Nat.zero_add] at hr14 ho14
      rw [List.nil_append] at ho14
      obtain ⟨g14, rfl⟩ := row_at_ ho14 hn1
      have R14 := Lib.hid hr14
      have hL14 : Below Wa.heap.size Wa W14 := (Below.refl _ _).grown hg14 (Nat.le_refl _) (fun b hb => by cases hb)
      have hcell : ∃ u, W14.cell? ⟨g14, q, none⟩ = some u := ⟨_, ints_cell ho14 hq⟩
      obtain ⟨u14, hcell⟩ := hcell
      have hfree := ho14.row.frozenAt q
      have hput := ints_put ho14 hq mu ⟨by omega, by omega⟩
      rw [HZS.out] at hput
      have hL15 : Below Wa.heap.size Wa (W14.setCell ⟨g14, q, none⟩ (.int .i64 mu)) := hL14.grown (setCell_else W14 ⟨g14, q, none⟩ _) hL14.size (fun b hb => by
        obtain rfl := Option.some.inj hb
        exact (ho14.row.lt g14 rfl).1)
      have TA := Lib.hid (HP.out.p.two.since hL15)
      have TB := Lib.hid (Two2.since (⟨HP.out.q.lie, HP.out.p.b.lie⟩ : Two2 Wa A10 k ys A11 k cs) hL15)
      have TC : Hid (Two2 (W14.setCell ⟨g14, q, none⟩ (.int .i64 mu)) (some ⟨g14, 0, none⟩) k zs A11 k cs) := ⟨hput.lie, HP.out.p.b.lie.since hL15⟩
      have S15 := Lib.hid (below_chain HB.out hL15)
      have hcap14 : k ≤ c14 := ho14.cap
      clear hr14 hg14 hL14 hL15 hput HP HB HZS
      go_wp2_with (at_builtin; refine wpList_append_run rfl (.const (.slice none 0 0)) (.tmp 57) 22 rfl rfl rfl R14.out ?_)
      refine (low_big x3 _).mono ?_
      rw [HMU.out]
      rintro e w' ⟨rfl, rfl⟩
      clear R14
      go_wp2_with fail
      clear hcell hfree ho14
      refine (wspread_any _ k _ xs _ k _ cs _ (by omega) (by omega) TA.out).mono ?_
      rw [HSA.out]
      rintro e V1 ⟨rfl, hb1⟩
      have TA1 := Lib.hid (TA.out.since hb1.out)
      have TB1 := Lib.hid (TB.out.since hb1.out)
      have TC1 := Lib.hid (TC.out.since hb1.out)
      have S1x := Lib.hid (below_chain S15.out hb1.out)
      clear hb1 TA TB TC S15
      go_wp2_with fail
      refine (wspread_any _ k _ ys _ k _ cs _ (by omega) (by omega) TB1.out).mono ?_
      rw [HSB.out]
      rintro e V2 ⟨rfl, hb2⟩
      have TA2 := Lib.hid (TA1.out.since hb2.out)
      have TB2 := Lib.hid (TB1.out.since hb2.out)
      have TC2 := Lib.hid (TC1.out.since hb2.out)
      have S2x := Lib.hid (below_chain S1x.out hb2.out)
      clear hb2 TA1 TB1 TC1 S1x
      go_wp2_with fail
      refine (worder_any _ k _ xs _ k _ cs _ (by omega) (by omega) TA2.out).mono ?_
      rw [HOA.out]
      rintro e V3 ⟨B3, n3, f3, rfl, hi3, hb3⟩
      have TA3 := Lib.hid (TA2.out.since hb3.out)
      have TB3 := Lib.hid (TB2.out.since hb3.out)
      have TC3 := Lib.hid (TC2.out.since hb3.out)
      have S3x := Lib.hid (below_chain S2x.out hb3.out)
      have O1 := Lib.hid hi3.out.lie
      have O1L := Lib.hid hi3.out.len
      clear hb3 TA2 TB2 TC2 S2x hi3
      have hlen3 : n3 = k - 1 := by rw [← O1L.out]; exact HOL.out
      subst hlen3
      go_wp2_with fail
      refine (worder_any _ k _ ys _ k _ cs _ (by omega) (by omega) TB3.out).mono ?_
      rw [HOB.out]
      rintro e V4 ⟨B4, n4, f4, rfl, hi4, hb4⟩
      have TA4 := Lib.hid (TA3.out.since hb4.out)
      have TC4 := Lib.hid (TC3.out.since hb4.out)
      have S4x := Lib.hid (below_chain S3x.out hb4.out)
      have O14 := Lib.hid (O1.out.since hb4.out)
      have O2 := Lib.hid hi4.out.lie
      have O2L := Lib.hid hi4.out.len
      clear hb4 TA3 TC3 S3x O1 hi4 TB3
      have hlen4 : n4 = k - 1 := by rw [← O2L.out]; exact HOL.out
      subst hlen4
      go_wp2_with fail
      refine (sameints_yes _ _ (k - 1) _ _ os _ (by omega) O14.out O2.out).mono ?_
      rintro e V5 ⟨rfl, hb5⟩
      have TA5 := Lib.hid (TA4.out.since hb5)
      have TC5 := Lib.hid (TC4.out.since hb5)
      have S5x := Lib.hid (below_chain S4x.out hb5)
      clear hb5 TA4 TC4 S4x O14 O2 O1L O2L
      go_wp2_with fail
      refine (wspread_any _ k _ xs _ k _ cs _ (by omega) (by omega) TA5.out).mono ?_
      rw [HSA.out]
      rintro e V6 ⟨rfl, hb6⟩
      have TA6 := Lib.hid (TA5.out.since hb6.out)
      have TC6 := Lib.hid (TC5.out.since hb6.out)
      have S6x := Lib.hid (below_chain S5x.out hb6.out)
      clear hb6 TA5 TC5 S5x
      go_wp2_with fail
      refine (wspread_any _ k _ zs _ k _ cs _ (by omega) (by omega) TC6.out).mono ?_
      rw [HSC.out]
      rintro e V7 ⟨rfl, hb7⟩
      have TA7 := Lib.hid (TA6.out.since hb7.out)
      have TC7 := Lib.hid (TC6.out.since hb7.out)
      have S7x := Lib.hid (below_chain S6x.out hb7.out)
      clear hb7 TA6 TC6 S6x
      go_wp2_with fail
      refine (wleast_any _ k _ xs _ k _ cs _ (by omega) (by omega) TA7.out).mono ?_
      rw [HLA.out]
      rintro e V8 ⟨rfl, hb8⟩
      have TA8 := Lib.hid (TA7.out.since hb8.out)
      have TC8 := Lib.hid (TC7.out.since hb8.out)
      have S8x := Lib.hid (below_chain S7x.out hb8.out)
      clear hb8 TA7 TC7 S7x
      go_wp2_with fail
      refine (wleast_any _ k _ zs _ k _ cs _ (by omega) (by omega) TC8.out).mono ?_
      rw [HLC.out]
      rintro e V9 ⟨rfl, hb9⟩
      have TA9 := Lib.hid (TA8.out.since hb9.out)
      have S9x := Lib.hid (below_chain S8x.out hb9.out)
      clear hb9 TA8 S8x TC8
      go_wp2_with fail
      refine (worder_any _ k _ xs _ k _ cs _ (by omega) (by omega) TA9.out).mono ?_
      rw [HOA.out]
      rintro e V10 ⟨B10, n10, f10, rfl, hi10, hb10⟩
      have S10x := Lib.hid (below_chain S9x.out hb10.out)
      have O3 := Lib.hid hi10.out.lie
      have O3L := Lib.hid hi10.out.len
      clear hb10 S9x hi10 TA9
      have hlen10 : n10 = k - 1 := by rw [← O3L.out]; exact HOL.out
      subst hlen10
      have hsub : (k : Int) - 1 = ((k - 1 : Nat) : Int) := by omega
      go_wp2_with (simp only [hsub])
      refine (wawake_any _).mono ?_
      rintro e V99 ⟨rfl, hb99⟩
      have S99 := Lib.hid (below_chain S10x.out hb99.out)
      go_wp2_with fail
      go_ret
      exact ⟨rfl, S99⟩
end Go.Proofs.Ytggijifealljiaa
