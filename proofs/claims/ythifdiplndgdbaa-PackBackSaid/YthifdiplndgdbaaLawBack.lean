/- PackBack answers true, for all numbers and bytes. Conditions: the slice's cells. -/
import Derived.Test.YthifdiplndgdbaaAwakePack
import Derived.Test.YthifdiplndgdbaaRegion
set_option linter.unusedVariables false
set_option linter.unusedSimpArgs false
namespace Go.Proofs.Ythifdiplndgdbaa
open Go.RowKit

theorem bytes_at2 {W : World} {g a b : Nat} {y z : Int} (hg : g < W.heap.size) (h0 : W.cell? ⟨g, 0, none⟩ = some (.int .u8 y)) (h1 : W.cell? ⟨g, 1, none⟩ = some (.int .u8 z)) (hy : y = (a : Int) ∧ a < 256) (hz : z = (b : Int) ∧ b < 256) :
    Bytes W W.heap.size (some ⟨g, 0, none⟩) 2 [a, b] := by
  refine ⟨rfl, fun k hk => ⟨_, rfl, hg, ?_⟩, getD_small (by simp; omega)⟩
  rw [add_zero_addr]
  rcases (by omega : k = 0 ∨ k = 1) with rfl | rfl
  · rw [h0, hy.1]; rfl
  · rw [h1, hz.1]; rfl
set_option maxHeartbeats 4000000 in
theorem back_short (A : Option Addr) (n c : Nat) (bs : List Nat) (x x2 : Int) (v v2 : Nat) (w : World) (hl : ¬ 20 < n) (h0 : 0 ≤ x) (h1 : x ≤ 18446744073709551615) (HX : Hid (x = (v : Int))) (h02 : 0 ≤ x2) (h12 : x2 ≤ 18446744073709551615) (HX2 : Hid (x2 = (v2 : Int))) (hA : Bytes w w.heap.size A n bs) :
    Calls Try.prog 4 #[.int .u64 x, .int .u64 x2, .slice A n c] w fun e w' => e = .returned (.bool true) ∧ Below w.heap.size w w' := by
  have HA := Lib.hid hA
  have HV : Hid (v < 18446744073709551616) := by have := HX.out; show _ < _; omega
  have HV2 : Hid (v2 < 18446744073709551616) := by have := HX2.out; show _ < _; omega
  clear hA
  go_enter Try.func4, Try.ntmps4
  go_wp2_with fail
  refine (put_any none 0 0 [] x v _ h0 h1 HX (by omega) Bytes.none_).mono ?_
  rw [List.nil_append]
  rintro e W1 ⟨A1, n1, c1, rfl, ho1, hb1⟩
  have HO1 := Lib.hid ho1
  have S1 := Lib.hid hb1
  obtain ⟨K, rfl⟩ : ∃ K, n1 = K + 1 := ⟨n1 - 1, by have := ho1.len; have := Pk.put_pos v; omega⟩
  have hK9 : K ≤ 9 := by have := ho1.len; have := Pk.put_len10 HV.out; omega
  clear ho1 hb1
  go_wp2_with fail
  refine (put_any none 0 0 [] x2 v2 _ h02 h12 HX2 (by omega) Bytes.none_).mono ?_
  rw [List.nil_append]
  rintro e W2 ⟨A2, n2, c2, rfl, ho2, hb2⟩
  have hn2 : 1 ≤ n2 := by have := ho2.len; have := Pk.put_pos v2; omega
  have hn10 : n2 ≤ 10 := by have := ho2.len; have := Pk.put_len10 HV2.out; omega
  have HLE : Hid (¬ x2 < x → K + 1 ≤ n2) := fun h => by
    have e1 := ho2.len
    have e2 := HO1.out.len
    have e3 := HX.out
    have e4 := HX2.out
    have := Pk.put_mono (a := v) (b := v2) (by omega)
    omega
  have S2 := Lib.hid (below_chain S1.out hb2)
  have O1 := Lib.hid (HO1.out.since hb2)
  clear HO1 ho2 hb2
  obtain ⟨A3, c3, W3, hr3, ho3, hb3⟩ := own_append (c' := c1) (Below.refl W2.heap.size W2) Own.none_ O1.out.bytes (by omega)
  rw [Nat.zero_add] at hr3 ho3
  rw [List.nil_append] at ho3
  obtain ⟨A4, c4, W4, hr4, ho4, hb4⟩ := own_append (w := W2) (c' := c) hb3 ho3 (HA.out.since (below_chain S2.out hb3)) (by omega)
  have R3 := Lib.hid hr3
  have R4 := Lib.hid hr4
  have HO4 := Lib.hid ho4
  have S4 := Lib.hid (below_chain S2.out hb4)
  have O14 := Lib.hid (O1.out.since hb4)
  clear hr3 hr4 ho3 ho4 hb3 hb4 O1
  go_wp2_with (at_builtin; first
    | (refine wpList_append_run rfl (.const (.slice none 0 0)) (.tmp 41) 22 rfl rfl rfl R3.out ?_)
    | (refine wpList_append_run rfl (.tmp 42) (.tmp 43) 22 rfl rfl rfl R4.out ?_))
  refine (get_any A4 _ c4 _ _ (by omega) HO4.out.cap HO4.out.bytes).mono ?_
  rw [Pk.get_put _ HV.out]
  rintro e W5 ⟨y5, A5, n5, c5, rfl, HY5, hy0, hy1, hn5, HO5, HB5⟩
  obtain rfl : n = n5 := by rw [← HO5.out.len, HA.out.len]
  have HYX : Hid (x = y5) := by show _ = _; rw [HY5.out, HX.out]
  obtain rfl : x = y5 := HYX.out
  have S5 := Lib.hid (below_chain S4.out HB5.out)
  have O15 := Lib.hid (O14.out.since HB5.out)
  have hs1 := slice_to A1 (K + 1) c1 K (by omega) O15.out.cap
  have H1 := Lib.hid hs1
  clear HYX HY5 hy0 hy1 HO4 R3 R4 O14
  go_wp2_with fail
  have HP : Hid (Bytes W5 W5.heap.size A1 K ((Pk.put v).take K)) := O15.out.bytes.first (by omega)
  have HLEN : Hid ((Pk.put v).length = K + 1) := O15.out.len
  have HCAP : Hid (K + 1 ≤ c1) := O15.out.cap
  refine (get_any A1 K c1 _ _ (by omega) (by have := HCAP.out; omega) HP.out).mono ?_
  rw [show (Pk.put v).take K = (Pk.put v).take ((Pk.put v).length - 1) by rw [HLEN.out]; rfl, Pk.get_less]
  rintro e W6 ⟨rfl, HB6⟩
  have S6 := Lib.hid (below_chain S5.out HB6.out)
  have O16 := Lib.hid (O15.out.since HB6.out)
  have HO6 := Lib.hid (HO5.out.since HB6.out)
  obtain ⟨ad, had, hblk, hcell⟩ := O16.out.bytes.at_ (show K < K + 1 by omega)
  have hsm := O16.out.small K
  obtain ⟨b, hbb⟩ : ∃ b : Nat, (Pk.put v).getD K 0 = b := ⟨_, rfl⟩
  rw [hbb] at hcell hsm
  obtain ⟨z, HZ⟩ : ∃ z : Int, Hid (z = (b : Int)) := ⟨_, rfl⟩
  rw [← HZ.out] at hcell
  obtain ⟨z2, HOR⟩ : ∃ z2 : Int, Hid (bits .or .u8 z 128 = z2) := ⟨_, rfl⟩
  have HZ2 : Hid (z2 = ((b % 128 + 128 : Nat) : Int) ∧ b % 128 + 128 < 256) := ⟨by
    have e := or128 (b := 0) (y := z) (u := b) (by have := HZ.out; omega) HZ.out
    rw [show z % 256 = z by have := HZ.out; omega] at e
    rw [← HOR.out, e], by omega⟩
  have HY2 : Hid ((0 : Int) = ((0 : Nat) : Int) ∧ 0 < 256) := ⟨rfl, by omega⟩
  obtain ⟨y2, HYY⟩ : ∃ y2 : Nat, Hid (y2 = b % 128 + 128) := ⟨_, rfl⟩
  rw [← HYY.out] at HZ2
  obtain ⟨us, HU⟩ : ∃ us : List Nat, Hid (us = (Pk.put v).take ((Pk.put v).length - 1)) := ⟨_, rfl⟩
  have HUK : Hid (us = (Pk.put v).take K) := by show _ = _; rw [HU.out, HLEN.out]; rfl
  have HUS0 : Hid (Bytes W6 W6.heap.size A1 K us) := by rw [HUK.out]; exact O16.out.bytes.first (by omega)
  have HAD := Lib.hid had
  have HCELL0 := Lib.hid hcell
  have HK : Hid (0 + K ≤ 1000) := by show 0 + K ≤ 1000; omega
  have HK2 : Hid (K + 2 ≤ 1000) := by show K + 2 ≤ 1000; omega
  clear hs1 hcell had hblk hsm hbb
  go_wp2_with fail
  obtain ⟨W0, HW0⟩ : ∃ W0 : World, Hid (W0 = W6.drew) := ⟨_, rfl⟩
  have HUS : Hid (Bytes W0 W0.heap.size A1 K us) := by rw [HW0.out]; show Bytes _ _ _ _ _; exact HUS0.out.drewN 1
  have HCELL : Hid (∀ W, Below W0.heap.size W0 W → W.cell? (ad.add K) = some (.int .u8 z)) := fun W hW => by
    have h : W0.cell? (ad.add K) = some (.int .u8 z) := by rw [HW0.out]; exact HCELL0.out
    exact later_cell hW h
  have HC := HCAP
  have S0 : Hid (Below w.heap.size w W0) := by rw [HW0.out]; exact S6.out.drew
  refine region_of_steps2 (by kernel_rfl) (fact2Of [.is (.slice A1 (K + 1) c1), .is (.slice A1 (K + 1) c1), .is (.int .i64 ((K + 1 : Nat) : Int)), .is (.int .i64 (K : Int)), .is (.slice A1 K c1), .own W0.heap.size K us, .is (.slice A1 (K + 1) c1), .is (.slice A1 (K + 1) c1), .is (.int .i64 ((K + 1 : Nat) : Int)), .is (.int .i64 (K : Int)), .is (.pointer (some (ad.add K))), .is (.int .u8 z), .is (.int .u8 z2), .row [.int .u8 z2, .int .u8 0], .own W0.heap.size (K + 2) (us ++ [y2, 0]), .own W0.heap.size (K + 2) (us ++ [y2, 0])]) (deadOf [(5, 14), (13, 14)]) (But 14 W0.heap.size) (fun W => Below W0.heap.size W0 W ∧ W0.heap.size ≤ W.heap.size) (by kernel_rfl)
    (fun i j v w w' hm hd hn h hR => fact2_stays _ _ 14 W0.heap.size [(5, 14), (13, 14)] (hds_of (by kernel_rfl)) i j v w w' hm hd hn h hR) (fun j w w' h k => but_inv h k) ⟨by rw [HW0.out]; exact Below.refl _ _, by rw [HW0.out]; exact Nat.le_refl _⟩ ?_ ?_
  · refine Steps2.cons ?_ (Steps2.cons ?_ (Steps2.cons ?_ (Steps2.cons ?_ (Steps2.cons ?_ (Steps2.cons ?_ (Steps2.cons ?_ (Steps2.cons ?_ (Steps2.cons ?_ (Steps2.cons ?_ (Steps2.cons ?_ (Steps2.cons ?_ (Steps2.cons ?_ (Steps2.cons ?_ (Steps2.cons ?_ (Steps2.cons ?_ (Steps2.nil))))))))))))))))
    · intro listed a W H hw hl hd
      have t7 : a.tmps.getD 7 undef = .slice A1 (K + 1) c1 := (H.old 7 (by kernel_rfl)).trans rfl
      exact step2_value (i := 0) rfl rfl (run_op_move rfl t7) (but_refl _) rfl
    · intro listed a W H hw hl hd
      have t7 : a.tmps.getD 7 undef = .slice A1 (K + 1) c1 := (H.old 7 (by kernel_rfl)).trans rfl
      exact step2_value (i := 1) rfl rfl (run_op_move rfl t7) (but_refl _) rfl
    · intro listed a W H hw hl hd
      have t60 : a.tmps.getD 60 undef = .slice A1 (K + 1) c1 := H.get 1 60 (by kernel_rfl) (dep_of hd 1 (by kernel_rfl)) (alive_none (by kernel_rfl))
      exact step2_value (i := 2) rfl rfl (run_op_len under24 rfl t60) (but_refl _) rfl
    · intro listed a W H hw hl hd
      have t61 : a.tmps.getD 61 undef = .int .i64 ((K + 1 : Nat) : Int) := H.get 2 61 (by kernel_rfl) (dep_of hd 2 (by kernel_rfl)) (alive_none (by kernel_rfl))
      exact step2_value (i := 3) rfl rfl (run_op_bin rfl t61 rfl (run_sub_i64 _ _ _ _ _ (by omega) (by omega) (by omega) _)) (but_refl _) rfl
    · intro listed a W H hw hl hd
      have t59 : a.tmps.getD 59 undef = .slice A1 (K + 1) c1 := H.get 0 59 (by kernel_rfl) (dep_of hd 0 (by kernel_rfl)) (alive_none (by kernel_rfl))
      have t62 : a.tmps.getD 62 undef = .int .i64 (K : Int) := H.get 3 62 (by kernel_rfl) (dep_of hd 3 (by kernel_rfl)) (alive_none (by kernel_rfl))
      exact step2_value (i := 4) rfl rfl (run_op_slice rfl (by show (Instr.sliceAt 22 (a.tmps.getD 59 undef) none (some (a.tmps.getD 62 undef)) none).run _ _ = _; rw [t59, t62]; rw [run_sliceAt_slice (h := under24)]; exact slice_to A1 (K + 1) c1 K (by omega) HC.out W)) (but_refl _) rfl
    · intro listed a W H hw hl hd
      have t63 : a.tmps.getD 63 undef = .slice A1 K c1 := H.get 4 63 (by kernel_rfl) (dep_of hd 4 (by kernel_rfl)) (alive_none (by kernel_rfl))
      obtain ⟨A2, q2, W2, hr, ho, hb⟩ := own_append (c' := c1) (Below.refl W.heap.size W) Own.none_ (HUS.out.since hw.1) HK.out
      rw [Nat.zero_add] at hr ho
      exact step2_value (i := 5) rfl rfl (run_op_append rfl rfl t63 hr) (but_later (by decide) hb) ⟨A2, q2, rfl, ho.elder hw.2⟩
    · intro listed a W H hw hl hd
      have t7 : a.tmps.getD 7 undef = .slice A1 (K + 1) c1 := (H.old 7 (by kernel_rfl)).trans rfl
      exact step2_value (i := 6) rfl rfl (run_op_move rfl t7) (but_refl _) rfl
    · intro listed a W H hw hl hd
      have t7 : a.tmps.getD 7 undef = .slice A1 (K + 1) c1 := (H.old 7 (by kernel_rfl)).trans rfl
      exact step2_value (i := 7) rfl rfl (run_op_move rfl t7) (but_refl _) rfl
    · intro listed a W H hw hl hd
      have t66 : a.tmps.getD 66 undef = .slice A1 (K + 1) c1 := H.get 7 66 (by kernel_rfl) (dep_of hd 7 (by kernel_rfl)) (alive_none (by kernel_rfl))
      exact step2_value (i := 8) rfl rfl (run_op_len under24 rfl t66) (but_refl _) rfl
    · intro listed a W H hw hl hd
      have t67 : a.tmps.getD 67 undef = .int .i64 ((K + 1 : Nat) : Int) := H.get 8 67 (by kernel_rfl) (dep_of hd 8 (by kernel_rfl)) (alive_none (by kernel_rfl))
      exact step2_value (i := 9) rfl rfl (run_op_bin rfl t67 rfl (run_sub_i64 _ _ _ _ _ (by omega) (by omega) (by omega) _)) (but_refl _) rfl
    · intro listed a W H hw hl hd
      have t65 : a.tmps.getD 65 undef = .slice A1 (K + 1) c1 := H.get 6 65 (by kernel_rfl) (dep_of hd 6 (by kernel_rfl)) (alive_none (by kernel_rfl))
      have t68 : a.tmps.getD 68 undef = .int .i64 (K : Int) := H.get 9 68 (by kernel_rfl) (dep_of hd 9 (by kernel_rfl)) (alive_none (by kernel_rfl))
      exact step2_value (i := 10) rfl rfl (run_op_index rfl t65 t68 (by rw [HAD.out]; exact run_index_u8 ad (K + 1) c1 K (by omega) W)) (but_refl _) rfl
    · intro listed a W H hw hl hd
      have t69 : a.tmps.getD 69 undef = .pointer (some (ad.add K)) := H.get 10 69 (by kernel_rfl) (dep_of hd 10 (by kernel_rfl)) (alive_none (by kernel_rfl))
      exact step2_value (i := 11) rfl rfl (run_op_load rfl t69 (run_load_u8 _ _ W (HCELL.out W hw.1))) (but_refl _) rfl
    · intro listed a W H hw hl hd
      have t70 : a.tmps.getD 70 undef = .int .u8 z := H.get 11 70 (by kernel_rfl) (dep_of hd 11 (by kernel_rfl)) (alive_none (by kernel_rfl))
      exact step2_value (i := 12) rfl rfl (run_op_bin rfl t70 rfl (run_or_u8 _ _ _ _ _ HOR.out _)) (but_refl _) rfl
    · intro listed a W H hw hl hd
      have t71 : a.tmps.getD 71 undef = .int .u8 z2 := H.get 12 71 (by kernel_rfl) (dep_of hd 12 (by kernel_rfl)) (alive_none (by kernel_rfl))
      exact step2_value (i := 13) rfl rfl (run_op_build rfl (by simp only [List.map_toArray, List.map_cons, List.map_nil]; show (Instr.buildSlice 22 2 #[(0, a.tmps.getD 71 undef), (1, .int .u8 0)]).run _ _ = _; rw [t71]; exact run_build_u8_2 ..)) (but_later (by decide) (later_alloc _ _)) (row2_made _ _ _ rfl)
    · intro listed a W H hw hl hd
      obtain ⟨A64, q64, t64, o64⟩ := H.get 5 64 (by kernel_rfl) (dep_of hd 5 (by kernel_rfl)) (alive_now (by kernel_rfl) hl)
      obtain ⟨g72, t72, c72, b72⟩ := H.get 13 72 (by kernel_rfl) (dep_of hd 13 (by kernel_rfl)) (alive_now (by kernel_rfl) hl)
      obtain ⟨A3, q3, W3, hr, ho, hb⟩ := own_append_at (c' := 2) hw.1 o64 (bytes_at2 b72 (c72 0 _ rfl) (c72 1 _ rfl) HZ2.out HY2.out) HK2.out
      exact step2_value (i := 14) rfl rfl (run_op_append rfl t64 t72 hr) (but_own hb) ⟨A3, q3, rfl, ho⟩
    · intro listed a W H hw hl hd
      obtain ⟨A73, q73, t73, o73⟩ := H.get 14 73 (by kernel_rfl) (dep_of hd 14 (by kernel_rfl)) (alive_none (by kernel_rfl))
      exact step2_value (i := 15) rfl rfl (run_op_assign rfl t73) (but_refl _) ⟨_, _, rfl, o73⟩
  · intro a W hdef hsz hw hall hact
    obtain ⟨A7, c7, t15, o15⟩ := hall 15 _ rfl (by kernel_rfl)
    have t15' : a.tmps.getD 15 undef = .slice A7 (K + 2) c7 := t15
    obtain ⟨u, hu⟩ : ∃ u : Nat → Value, ∀ k, a.tmps.getD k undef = u k := ⟨_, fun _ => rfl⟩
    simp only [hu] at hact t15'
    have hact' : a = ([59, 60, 61, 62, 63, 64, 65, 66, 67, 68, 69, 70, 71, 72, 73, 15] : List Nat).foldl (fun b k => b.put (some k) (u k)) _ := hact
    simp only [List.foldl, t15'] at hact'
    have HACT := Lib.hid hact'
    clear hu hact hact' t15 hall hdef hsz
    have O7 := Lib.hid o15
    have S7 := Lib.hid (S0.out.trans (hw.1.mono S0.out.size))
    have OB7 : Hid (Bytes W W.heap.size A5 n bs) := by
      have h0 : Bytes W0 W0.heap.size A5 n bs := by rw [HW0.out]; show Bytes _ _ _ _ _; exact HO6.out.bytes.drewN 1
      exact h0.since hw.1
    clear o15
    rw [HACT.out]
    go_wp2_with fail
    refine (get_any A7 _ c7 _ _ (by omega) O7.out.cap O7.out.bytes).mono ?_
    rw [HU.out, Pk.get_more v y2 (by rw [HYY.out]; omega)]
    rintro e W8 ⟨rfl, HB8⟩
    have S8 := Lib.hid (below_chain S7.out HB8.out)
    have OB8 := Lib.hid (OB7.out.since HB8.out)
    have hle : x2 < x ∨ (K : Int) + 1 ≤ n2 := by
      rcases (by omega : x2 < x ∨ x ≤ x2) with h | h
      · exact Or.inl h
      · have := HLE.out (by omega); omega
    have HLD := Lib.hid hle
    clear hle
    by_cases hgt : x2 < x
    all_goals
      go_wp2_with fail
      refine (same_since A5 A n c5 c bs _ (by omega) OB8.out (HA.out.since S8.out)).mono ?_
      rintro e W9 ⟨rfl, hb9⟩
      have S9 := Lib.hid (below_chain S8.out hb9)
      clear hb9
      go_wp2_with fail
      refine (awake_any _).mono ?_
      rintro e W10 ⟨rfl, hb10⟩
      have S10 := below_chain S9.out hb10
      go_wp2_with fail
      go_ret
      refine ⟨?_, S10⟩
      have hd := HLD.out
      show Ending.returned (Value.bool _) = _
      first
        | (simp; done)
        | (simp; omega)
set_option maxHeartbeats 1000000 in
theorem back_long (A : Option Addr) (n c : Nat) (x x2 : Int) (w : World) (hl : 20 < n) :
    Calls Try.prog 4 #[.int .u64 x, .int .u64 x2, .slice A n c] w fun e w' => e = .returned (.bool true) ∧ Below w.heap.size w w' := by
  go_enter Try.func4, Try.ntmps4
  go_wp2_with fail
  refine (awake_any _).mono ?_
  rintro e W7 ⟨rfl, hb7⟩
  go_wp2_with fail
  go_ret
  exact ⟨rfl, hb7⟩
theorem back_law (x x2 : Int) (A : Option Addr) (n c : Nat) (bs : List Nat) (h0 : 0 ≤ x) (h1 : x ≤ 18446744073709551615) (h02 : 0 ≤ x2) (h12 : x2 ≤ 18446744073709551615) (w : World) (hA : Bytes w w.heap.size A n bs) :
    Calls Try.prog 4 #[.int .u64 x, .int .u64 x2, .slice A n c] w fun e w' => e = .returned (.bool true) ∧ Below w.heap.size w w' := by
  by_cases hl : 20 < n
  · exact back_long A n c x x2 w hl
  · obtain ⟨v, hv⟩ := Int.eq_ofNat_of_zero_le h0
    obtain ⟨v2, hv2⟩ := Int.eq_ofNat_of_zero_le h02
    exact back_short A n c bs x x2 v v2 w hl h0 h1 hv h02 h12 hv2 hA
end Go.Proofs.Ythifdiplndgdbaa
