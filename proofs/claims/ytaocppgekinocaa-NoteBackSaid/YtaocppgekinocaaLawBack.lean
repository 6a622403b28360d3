/- NoteBack answers true, for all notes and sizes. Conditions: the notes' cells. -/
import Derived.Test.YtaocppgekinocaaLawPages
set_option linter.unusedVariables false
set_option linter.unusedSimpArgs false
namespace Go.Proofs.Ytaocppgekinocaa
open Go.RowKit Go.Sort

theorem encL_take {g : List V} (k : Nat) : (encL (g.take k)).length = Nt.sz (g.map toN) k := by unfold encL Nt.sz; rw [List.map_take]
/-- One more than what goes in does not. -/
theorem fit_over {g : List V} (hg : allB g = true) {x : Int} {k : Nat} (hk : FitM x g k) (hl : k < g.length) : x < ((encL (g.take (k + 1))).length : Int) := by
  obtain ⟨_, _, h3⟩ := hk.1 hg
  rw [List.length_map] at h3
  rw [encL_take]
  rcases h3 with h3 | h3
  · omega
  · exact h3
set_option maxHeartbeats 8000000 in
theorem back_law (A : Option Addr) (n c : Nat) (vs : List V) (x : Int) (w : World) (hn : n ≤ 9223372036854775807) (hc : n ≤ c) (hA : Notes w w.heap.size A n vs) :
    Calls Try.prog 5 #[.slice A n c, .int .i64 x] w (SaysB w true) := by
  by_cases hgt : 60 < n
  · go_enter Try.func5, Try.ntmps5
    go_wp2_with fail
    refine (awake_any _).mono ?_
    rintro e W1 ⟨rfl, hb⟩
    go_wp2_with fail
    go_ret
    exact ⟨rfl, hb⟩
  · have HA := Lib.hid hA
    have HL := Lib.hid hA.len
    have HWF := Lib.hid hA.all
    have HC := Lib.hid hc
    obtain ⟨q, HQ⟩ : ∃ q : Nat, Hid (lowM x 129 = (q : Int)) := ⟨(lowM x 129).toNat, by have := lowM_bd x 129 (by omega); show _ = _; omega⟩
    have hq : q < 129 := by have := lowM_bd x 129 (by omega); rw [HQ.out] at this; omega
    clear hA
    go_enter Try.func5, Try.ntmps5
    go_wp2_with fail
    refine (low_any x 129 (by omega) (by omega) _).mono ?_
    rw [HQ.out]
    rintro e W1 ⟨rfl, rfl⟩
    go_wp2_with fail
    go_loopw [5] (fun t5 wr => ∃ (k : Nat), t5 = .int .i64 k ∧ k ≤ n ∧ Hid (∀ j, j < k → okB (vs.getD j V.zero) = true) ∧ Hid (Below w.heap.size w wr)) (fun t5 _ => n - (intOf t5).toNat)
    case atStart => exact ⟨0, rfl, Nat.zero_le _, fun j hj => absurd hj (Nat.not_lt_zero j), Below.refl _ _⟩
    case round =>
      obtain ⟨k, rfl, hk, HK, HB⟩ := hrel
      by_cases hlt : k < n
      · obtain ⟨ad, hA, hblk, hat⟩ := (HA.out.since HB.out).each k hlt
        subst hA
        obtain ⟨v, HV⟩ : ∃ v, Hid (v = vs.getD k V.zero) := ⟨_, rfl⟩
        rw [← HV.out] at hat
        have i0 : (0 : Int) ≤ (k : Int) := by omega
        have i1 : (k : Int) < (n : Int) := by omega
        obtain ⟨c0, c1, c2, c3, c4⟩ := hat
        go_wp2_with fail
        refine (may_any v _).mono ?_
        rcases hok : okB v
        · rintro e W1 ⟨rfl, hb1⟩
          have HNB : Hid (allB vs = false) := allB_no (k := k) (by rw [HL.out]; exact hlt) (by rw [← HV.out]; exact hok)
          have HLR : Hid (layR (128 + (q : Int)) vs = .inl 2) := layR_no (Or.inr HNB.out)
          have HSZ : Hid (sizeM vs = 0) := if_neg (by rw [HNB.out]; simp)
          have S1 := Lib.hid (below_chain HB.out hb1.out)
          have N1 := Lib.hid (HA.out.since S1.out)
          clear c0 c1 c2 c3 c4 hb1
          go_wp2_with fail
          refine (lay_any (some ad) n c (128 + (q : Int)) vs _ (by omega) N1.out).mono ?_
          rw [HLR.out]
          rintro e W2 ⟨v2, rfl, HW2, hb2⟩
          have S2 := Lib.hid (below_chain S1.out hb2.out)
          have N2 := Lib.hid (N1.out.since hb2.out)
          clear S1 N1 hb2
          go_wp2_with fail
          refine (num_wrong 2 (by omega) v2 _ HW2.out).mono ?_
          rintro e W3 ⟨rfl, hw3⟩
          subst hw3
          go_wp2_with fail
          refine (size_any (some ad) n c vs _ (by omega) N2.out).mono ?_
          rw [HSZ.out]
          rintro e W4 ⟨rfl, hb4⟩
          have S4 := Lib.hid (below_chain S2.out hb4.out)
          have N4 := Lib.hid (N2.out.since hb4.out)
          clear S2 N2 hb4 HW2
          go_wp2_with fail
          refine (fit_any (some ad) n c (128 + (q : Int)) vs _ (by omega) N4.out).mono ?_
          rintro e W5 ⟨k5, rfl, HK5, hb5⟩
          obtain rfl : k5 = 0 := HK5.out.2 HNB.out
          have S5 := Lib.hid (below_chain S4.out hb5.out)
          clear S4 N4 hb5 HK5
          go_wp2_with fail
          refine (awake_any _).mono ?_
          rintro e W6 ⟨rfl, hb6⟩
          have S6 := Lib.hid (below_chain S5.out hb6.out)
          go_wp2_with fail
          go_ret
          exact ⟨rfl, S6⟩
        · rintro e W1 ⟨rfl, hb1⟩
          have S1 := Lib.hid (below_chain HB.out hb1.out)
          have HK2 : Hid (∀ j, j < k + 1 → okB (vs.getD j V.zero) = true) := fun j hj => by
            by_cases e : j = k
            · subst e; rw [← HV.out]; exact hok
            · exact HK.out j (by omega)
          clear c0 c1 c2 c3 c4 hb1
          go_wp2_with fail
          go_roundw
          case rel => exact ⟨k + 1, by go_num, by omega, HK2, S1⟩
          case measure => simp [intOf]; omega
      · have HG : Hid (allB vs = true) := allB_yes (fun j hj => HK.out j (by rw [HL.out] at hj; omega))
        have N0 := Lib.hid (HA.out.since HB.out)
        clear HK
        go_wp2_with fail
        refine (fit_any A n c (128 + (q : Int)) vs _ (by omega) N0.out).mono ?_
        rintro e W1 ⟨k1, rfl, HK1, hb1⟩
        have hk1 : k1 ≤ n := by have := HK1.out.le; rw [HL.out] at this; exact this
        obtain ⟨l1, l2, l3⟩ := fit_lay HG.out HWF.out (by omega) (by omega) HK1.out
        obtain ⟨ps, HPS⟩ : ∃ ps, Hid (ps = Nt.page (128 + (q : Int)).toNat ((vs.take k1).map toN)) := ⟨_, rfl⟩
        rw [← HPS.out] at l1 l2 l3
        have L1 := Lib.hid l1
        have L2 := Lib.hid l2
        have L3 : Hid (ps.length = 128 + q) := by show _ = _; rw [l3]; omega
        have S1 := Lib.hid (below_chain HB.out hb1.out)
        have N1 := Lib.hid (N0.out.since hb1.out)
        have hsl1 : ∀ W : World, (Instr.slice 22 (.slice A n c) none (some (.int .i64 (k1 : Int))) none).run Try.prog W = .ok (.slice A k1 c) W := fun W => sliceN_to A n c k1 hk1 hc W
        clear l1 l2 l3 N0 hb1
        go_wp2_with fail
        refine (lay_any A k1 c (128 + (q : Int)) (vs.take k1) _ (by omega) (N1.out.first hk1)).mono ?_
        rw [L1.out]
        rintro e W2 ⟨A2, n2, c2, rfl, HO2, hb2⟩
        obtain rfl : 128 + q = n2 := by rw [← HO2.out.len]; exact L3.out.symm
        have S2 := Lib.hid (below_chain S1.out hb2.out)
        have N2 := Lib.hid (N1.out.since hb2.out)
        clear S1 N1 hb2
        go_wp2_with fail
        refine (read_any A2 (128 + q) c2 ps _ (by omega) HO2.out.cap HO2.out.bytes).mono ?_
        rw [L2.out]
        rintro e W3 ⟨A3, n3, c3, rfl, HO3, hb3⟩
        obtain rfl : k1 = n3 := by rw [← HO3.out.len, List.length_take, HL.out]; omega
        have S3 := Lib.hid (below_chain S2.out hb3.out)
        have N3 := Lib.hid (N2.out.since hb3.out)
        clear S2 N2 hb3 HO2
        have hfs : sizeM (vs.take k1) = (encL (vs.take k1)).length := if_pos (allB_take HG.out k1)
        obtain ⟨z, HZ⟩ : ∃ z : Nat, Hid (sizeM (vs.take k1) = z) := ⟨_, rfl⟩
        have hz : (z : Int) ≤ 128 + q := by rw [← HZ.out, hfs]; exact (fit_fits HG.out HWF.out (by omega) HK1.out).1
        clear hfs
        go_wp2_with fail
        refine (samenotes_since A3 A k1 c3 c (vs.take k1) _ (by omega) HO3.out.notes (N3.out.first hk1)).mono ?_
        rintro e W4 ⟨rfl, hb4⟩
        have S4 := Lib.hid (below_chain S3.out hb4.out)
        have N4 := Lib.hid (N3.out.since hb4.out)
        clear S3 N3 hb4 HO3
        go_wp2_with fail
        refine (size_any A k1 c (vs.take k1) _ (by omega) (N4.out.first hk1)).mono ?_
        rw [HZ.out]
        rintro e W5 ⟨rfl, hb5⟩
        have S5 := Lib.hid (below_chain S4.out hb5.out)
        have N5 := Lib.hid (N4.out.since hb5.out)
        clear S4 N4 hb5
        by_cases hall : k1 = n
        · have b1 : ((k1 : Int) == (n : Int)) = true := by simp; omega
          clear hall
          go_wp2_with fail
          refine (awake_any _).mono ?_
          rintro e W6 ⟨rfl, hb6⟩
          have S6 := Lib.hid (below_chain S5.out hb6.out)
          go_wp2_with fail
          go_ret
          exact ⟨rfl, S6⟩
        · have b1 : ((k1 : Int) == (n : Int)) = false := by simp; omega
          have hk2 : k1 + 1 ≤ n := by omega
          have hov := fit_over HG.out HK1.out (by rw [HL.out]; omega)
          have HLR : Hid (layR (128 + (q : Int)) (vs.take (k1 + 1)) = .inl 7) := layR_full (pageB_yes (by omega) (by omega)) (allB_take HG.out _) hov
          have hfs : sizeM (vs.take (k1 + 1)) = (encL (vs.take (k1 + 1))).length := if_pos (allB_take HG.out _)
          obtain ⟨y, HY⟩ : ∃ y : Nat, Hid (sizeM (vs.take (k1 + 1)) = y) := ⟨_, rfl⟩
          have hy : 128 + (q : Int) < (y : Int) := by rw [← HY.out, hfs]; exact hov
          have hsl2 : ∀ W : World, (Instr.slice 22 (.slice A n c) none (some (.int .i64 ((k1 : Int) + 1))) none).run Try.prog W = .ok (.slice A (k1 + 1) c) W := fun W => by
            have := sliceN_to A n c (k1 + 1) hk2 hc W
            rwa [show ((k1 + 1 : Nat) : Int) = (k1 : Int) + 1 by omega] at this
          clear hfs hov hall hsl1
          go_wp2_with fail
          refine (lay_any A (k1 + 1) c (128 + (q : Int)) (vs.take (k1 + 1)) _ (by omega) (N5.out.first hk2)).mono ?_
          rw [HLR.out]
          rintro e W6 ⟨v6, rfl, HW6, hb6⟩
          have S6 := Lib.hid (below_chain S5.out hb6.out)
          have N6 := Lib.hid (N5.out.since hb6.out)
          clear S5 N5 hb6
          go_wp2_with fail
          refine (num_wrong 7 (by omega) v6 _ HW6.out).mono ?_
          rintro e W7 ⟨rfl, hw7⟩
          subst hw7
          go_wp2_with fail
          refine (size_any A (k1 + 1) c (vs.take (k1 + 1)) _ (by omega) (N6.out.first hk2)).mono ?_
          rw [HY.out]
          rintro e W8 ⟨rfl, hb8⟩
          have S8 := Lib.hid (below_chain S6.out hb8.out)
          clear S6 N6 hb8 HW6
          go_wp2_with fail
          refine (awake_any _).mono ?_
          rintro e W9 ⟨rfl, hb9⟩
          have S9 := Lib.hid (below_chain S8.out hb9.out)
          go_wp2_with fail
          go_ret
          exact ⟨rfl, S9⟩
end Go.Proofs.Ytaocppgekinocaa
