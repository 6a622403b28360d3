/- TableSparse: true, whatever its arguments are. No conditions. -/
import Derived.Test.YthamnmadgfmbkaaTabAwake
import Derived.Test.YthamnmadgfmbkaaSparseMath
import Derived.Test.YthamnmadgfmbkaaShared
set_option linter.unusedVariables false
set_option linter.unusedSimpArgs false
namespace Go.Proofs.Ythamnmadgfmbkaa
open Go.RowKit

theorem sp_addr (f : Int) (s i : Nat) : IntKind.u64.wrap (f + IntKind.u64.wrap ((i : Int) * 2 ^ s)) = spA f s i := by
  rw [IntKind.wrap_u64, IntKind.wrap_u64]
  unfold spA
  omega
theorem sp_even (i : Nat) : ((i : Int) % 2 == 0) = (i % 2 == 0) := by rw [Bool.eq_iff_iff]; simp; omega
theorem sp_half (a b : Nat) (h : b ≤ a) : ((((a + 1) / 2 - (b + 1) / 2 : Nat)) : Int) = ((a : Int) + 1) / 2 - ((b : Int) + 1) / 2 := by omega
theorem sp_half1 (a : Nat) : ((((a + 1) / 2 : Nat)) : Int) = ((a : Int) + 1) / 2 := by omega
set_option maxHeartbeats 16000000 in
set_option maxRecDepth 20000 in
theorem sparse_law (x1 f x3 x4 : Int) (w : World) (z : 0 ≤ f ∧ f ≤ 18446744073709551615) : Calls Try.prog 6 #[.int .i64 x1, .int .u64 f, .int .i64 x3, .int .i64 x4] w (SaysB w true) := by
  obtain ⟨n, HN⟩ : ∃ n : Nat, Hid (lowM x1 61 = (n : Int)) := ⟨(lowM x1 61).toNat, by have := lowM_bd x1 61 (by omega); show _ = _; omega⟩
  have hn : n ≤ 60 := by have := lowM_bd x1 61 (by omega); have := HN.out; omega
  obtain ⟨s, HS⟩ : ∃ s : Nat, Hid (lowM x3 58 = (s : Int)) := ⟨(lowM x3 58).toNat, by have := lowM_bd x3 58 (by omega); show _ = _; omega⟩
  have hs : s ≤ 57 := by have := lowM_bd x3 58 (by omega); have := HS.out; omega
  obtain ⟨c, HC4⟩ : ∃ c : Nat, Hid (lowM x4 ((n : Int) + 1) = (c : Int)) := ⟨(lowM x4 ((n : Int) + 1)).toNat, by have := lowM_bd x4 ((n : Int) + 1) (by omega); show _ = _; omega⟩
  have hc : c ≤ n := by have := lowM_bd x4 ((n : Int) + 1) (by omega); have := HC4.out; omega
  have s0 : (0 : Int) ≤ (s : Int) := by omega
  go_enter Try.func6, Try.ntmps6
  go_wp2_with fail
  refine (low_any x1 61 (by omega) (by omega) _).mono ?_
  rw [HN.out]
  rintro e w' ⟨rfl, rfl⟩
  go_wp2_with fail
  refine (low_any x3 58 (by omega) (by omega) _).mono ?_
  rw [HS.out]
  rintro e w' ⟨rfl, rfl⟩
  go_wp2_with fail
  refine (tnew_any _).mono ?_
  rintro e W0 ⟨g, fp0, rfl, hc0, hb0⟩
  have C0 : Hid (TabAt W0 w.heap.size fp0 g (spL f s 0)) := hc0
  have S0 := Lib.hid hb0
  clear hc0 hb0
  go_wp2_with fail
  go_loopw [10] (fun t10 wr => ∃ (i : Nat) (fp : Nat → Prop), t10 = .int .i64 i ∧ i ≤ n ∧ Hid (TabAt wr w.heap.size fp g (spL f s i)) ∧ Hid (Below w.heap.size w wr)) (fun t10 _ => n - (intOf t10).toNat)
  case atStart => exact ⟨0, fp0, rfl, Nat.zero_le _, C0, S0⟩
  clear C0 S0
  case round =>
    obtain ⟨Wa, rfl⟩ : ∃ Wa, Wa = wr := ⟨_, rfl⟩
    obtain ⟨i, fp, rfl, hi, HC, HB⟩ := hrel
    have i0 : (0 : Int) ≤ (i : Int) := by omega
    by_cases hlt : i < n
    · have i1 : (i : Int) < (n : Int) := by omega
      have HG : Hid (getT (spL f s i) (spE f s i).addr = none) := (spL_get hs (by omega) (by omega)).trans (if_neg (Nat.lt_irrefl i))
      have HLE : Hid ((spL f s i).length < 120) := by show _ < _; rw [spL_len hs (by omega)]; omega
      have HE : Hid (EWf (spE f s i)) := spE_wf (by omega)
      go_wp2_with fail
      rw [sp_addr, sp_even]
      refine (tput_any (spE f s i) HE.out HC.out HLE.out).mono ?_
      rw [HG.out]
      rintro e W1 ⟨fp1, rfl, hc1, hm1⟩
      have S1 := Lib.hid (hm1.below HB.out HC.out.ge HC.out.base_le)
      have T1 : Hid (TabAt W1 w.heap.size fp1 g (spL f s (i + 1))) := hc1
      clear hc1 hm1 HC HB HG HLE HE
      rw [pairO_none]
      obtain ⟨W2, HW2⟩ : ∃ W2, Hid (W2 = W1.alloc (.cells #[.int .u64 0, .int .i64 0, .bool false, .int .i64 0] 32)) := ⟨_, rfl⟩
      have hb2 : Below W1.heap.size W1 W2 := by rw [HW2.out]; exact later_alloc _ _
      have T2 := Lib.hid (T1.out.since hb2)
      have S2 := Lib.hid (below_chain S1.out hb2)
      go_wp2_with fail
      rw [← HW2.out]
      clear hb2 HW2 T1 S1
      go_roundw
      case rel => exact ⟨i + 1, fp1, by go_num, by omega, T2, S2⟩
      case measure => simp [intOf]; omega
    · obtain rfl : i = n := by omega
      clear hlt hi
      go_wp2_with fail
      refine (tcopy_any HC.out).mono ?_
      rintro e W3 ⟨g2, fp2, rfl, hc3, hb3⟩
      have T3 : Hid (Tabs2 W3 w.heap.size fp fp2 g g2 (spL f s i) (spL f s i)) := Tabs2.of_new HC.out hc3 hb3
      have S3 := Lib.hid (below_chain HB.out hb3)
      clear hc3 hb3 HC HB
      go_wp2_with fail
      refine (low_any x4 ((i : Int) + 1) (by omega) (by omega) _).mono ?_
      rw [HC4.out]
      rintro e w' ⟨rfl, rfl⟩
      clear HC4
      have c0 : (0 : Int) ≤ (c : Int) := by omega
      go_wp2_with fail
      go_loopw [14] (fun t14 wr => ∃ (j : Nat), t14 = .int .i64 j ∧ j ≤ i ∧ Hid (Tabs2 wr w.heap.size fp fp2 g g2 (spL f s i) (spL f s i)) ∧ Hid (Below w.heap.size w wr)) (fun t14 _ => i - (intOf t14).toNat)
      case atStart => exact ⟨0, rfl, Nat.zero_le _, T3, S3⟩
      clear T3 S3
      case round =>
        obtain ⟨Wb, rfl⟩ : ∃ Wb, Wb = wr := ⟨_, rfl⟩
        obtain ⟨j, rfl, hj, HT, HB⟩ := hrel
        have j0 : (0 : Int) ≤ (j : Int) := by omega
        by_cases hlt : j < i
        · have j1 : (j : Int) < (i : Int) := by omega
          have HG : Hid (getT (spL f s i) (spA f s j) = some (spE f s j)) := (spL_get hs (by omega) (by omega)).trans (if_pos hlt)
          have HA := Lib.hid (spA_bd (f := f) (s := s) (i := j))
          obtain ⟨⟨xa, xp, xd, xq⟩, HX⟩ : ∃ x : E, Hid (spE f s j = x) := ⟨_, rfl⟩
          obtain rfl : (j : Int) = xp := congrArg E.page HX.out
          rw [HX.out] at HG
          go_wp2_with fail
          rw [sp_addr]
          refine (tget_any (spA f s j) HA.out.1 HA.out.2 HT.out.d).mono ?_
          rw [HG.out]
          rintro e W1 ⟨rfl, hb1⟩
          have T1 := Lib.hid (HT.out.since hb1.out)
          have S1 := Lib.hid (below_chain HB.out hb1.out)
          clear hb1 HT HB HG HA HX
          rw [pairO_some]
          dsimp only
          obtain ⟨W2, HW2⟩ : ∃ W2, Hid (W2 = W1.alloc (.cells #[.int .u64 xa, .int .i64 (j : Int), .bool xd, .int .i64 xq] 32)) := ⟨_, rfl⟩
          have hb2 : Below W1.heap.size W1 W2 := by rw [HW2.out]; exact later_alloc _ _
          have T2 := Lib.hid (T1.out.since hb2)
          have S2 := Lib.hid (below_chain S1.out hb2)
          have d2 : (W1.alloc (.cells #[.int .u64 xa, .int .i64 (j : Int), .bool xd, .int .i64 xq] 32)).cell? ⟨W1.heap.size, 1, none⟩ = some (.int .i64 (j : Int)) := by rw [cell_new]; rfl
          go_wp2_with fail
          rw [← HW2.out]
          clear hb2 HW2 T1 S1 d2
          go_roundw
          case rel => exact ⟨j + 1, by go_num, by omega, T2, S2⟩
          case measure => simp [intOf]; omega
        · go_wp2_with fail
          clear hlt hj j0
          have T4 : Hid (Tabs2 Wb w.heap.size fp fp2 g g2 (spD f s i 0) (spL f s i)) := HT
          have S4 := HB
          clear HT HB
          go_loopw [17] (fun t17 wr => ∃ (k : Nat) (fq : Nat → Prop), t17 = .int .i64 k ∧ k ≤ c ∧ Hid (Tabs2 wr w.heap.size fq fp2 g g2 (spD f s i k) (spL f s i)) ∧ Hid (Below w.heap.size w wr)) (fun t17 _ => c - (intOf t17).toNat)
          case atStart => exact ⟨0, fp, rfl, Nat.zero_le _, T4, S4⟩
          clear T4 S4
          case round =>
            obtain ⟨Wc, rfl⟩ : ∃ Wc, Wc = wr := ⟨_, rfl⟩
            obtain ⟨k, fq, rfl, hk, HT, HB⟩ := hrel
            have k0 : (0 : Int) ≤ (k : Int) := by omega
            by_cases hlt : k < c
            · have k1 : (k : Int) < (c : Int) := by omega
              have HG : Hid (getT (spD f s i k) (spA f s k) = some (spE f s k)) := (spD_get hs (by omega) (by omega) (by omega)).trans (if_pos ⟨Nat.le_refl k, by omega⟩)
              have HG2 : Hid (getT (spD f s i (k + 1)) (spA f s k) = none) := (spD_get hs (by omega) (by omega) (by omega)).trans (if_neg (by omega))
              have HA := Lib.hid (spA_bd (f := f) (s := s) (i := k))
              obtain ⟨⟨xa, xp, xd, xq⟩, HX⟩ : ∃ x : E, Hid (spE f s k = x) := ⟨_, rfl⟩
              obtain rfl : (k : Int) = xp := congrArg E.page HX.out
              rw [HX.out] at HG
              go_wp2_with fail
              rw [sp_addr]
              refine (tdrop_any (spA f s k) HA.out.1 HA.out.2 HT.out.d).mono ?_
              rw [HG.out]
              rintro e W1 ⟨fp1, rfl, hc1, hm1⟩
              obtain ⟨ht1, hm1⟩ := HT.out.left hc1 hm1
              have T1 : Hid (Tabs2 W1 w.heap.size fp1 fp2 g g2 (spD f s i (k + 1)) (spL f s i)) := ht1
              have S1 := Lib.hid (HT.out.below HB.out hm1)
              clear hc1 hm1 ht1 HT HB HG HX
              rw [pairO_some]
              dsimp only
              obtain ⟨W2, HW2⟩ : ∃ W2, Hid (W2 = W1.alloc (.cells #[.int .u64 xa, .int .i64 (k : Int), .bool xd, .int .i64 xq] 32)) := ⟨_, rfl⟩
              have hb2 : Below W1.heap.size W1 W2 := by rw [HW2.out]; exact later_alloc _ _
              have T2 := Lib.hid (T1.out.since hb2)
              have S2 := Lib.hid (below_chain S1.out hb2)
              have R2 : Hid (RestC (Or2 fp1 fp2) W2 W1.heap.size #[.int .u64 xa, .int .i64 (k : Int), .bool xd, .int .i64 xq] 32) := by rw [HW2.out]; exact RestC.new W1 _ _ T1.out.lt
              go_wp2_with fail
              rw [← HW2.out, sp_addr]
              obtain ⟨be, HBE⟩ : ∃ be, Hid (W1.heap.size = be) := ⟨_, rfl⟩
              rw [HBE.out] at R2 ⊢
              clear hb2 HW2 T1 S1 HBE
              refine (tdrop_any (spA f s k) HA.out.1 HA.out.2 T2.out.d).mono ?_
              rw [HG2.out, drop_none HG2.out]
              rintro e W3 ⟨fp3, rfl, hc3, hm3⟩
              obtain ⟨ht3, hm3⟩ := T2.out.left hc3 hm3
              have T3 := Lib.hid ht3
              have S3 := Lib.hid (T2.out.below S2.out hm3)
              have R3 := Lib.hid (R2.out.step hm3)
              clear hc3 hm3 ht3 T2 S2 R2 HG2 HA
              rw [pairO_none]
              obtain ⟨W4, HW4⟩ : ∃ W4, Hid (W4 = W3.alloc (.cells #[.int .u64 0, .int .i64 0, .bool false, .int .i64 0] 32)) := ⟨_, rfl⟩
              have hb4 : Below W3.heap.size W3 W4 := by rw [HW4.out]; exact later_alloc _ _
              have T4 := Lib.hid (T3.out.since hb4)
              have S4 := Lib.hid (below_chain S3.out hb4)
              have d4 : (W3.alloc (.cells #[.int .u64 0, .int .i64 0, .bool false, .int .i64 0] 32)).cell? ⟨be, 1, none⟩ = some (.int .i64 (k : Int)) := by rw [← HW4.out, (R3.out.since hb4).cell]; rfl
              go_wp2_with fail
              rw [← HW4.out]
              clear hb4 HW4 T3 S3 d4 R3
              go_roundw
              case rel => exact ⟨k + 1, fp3, by go_num, by omega, T4, S4⟩
              case measure => simp [intOf]; omega
            · obtain rfl : k = c := by omega
              clear hlt hk k0
              have HN1 : Hid ((((spD f s i k).length : Nat) : Int) = (i : Int) - (k : Int)) := by show _ = _; rw [spD_len hs (by omega) (by omega)]; omega
              have HN2 : Hid ((((spL f s i).length : Nat) : Int) = (i : Int)) := by show _ = _; rw [spL_len hs (by omega)]
              have HD1 : Hid (((dirtyT (spD f s i k) : Nat) : Int) = ((i : Int) + 1) / 2 - ((k : Int) + 1) / 2) := by show _ = _; rw [spD_dirty hs (by omega) (by omega)]; omega
              have HD2 : Hid (((dirtyT (spL f s i) : Nat) : Int) = ((i : Int) + 1) / 2) := by show _ = _; rw [spL_dirty hs (by omega)]; omega
              go_wp2_with fail
              refine (tlen_any HT.out.d).mono ?_
              rw [HN1.out]
              rintro e W1 ⟨rfl, hb1⟩
              have T1 := Lib.hid (HT.out.since hb1.out)
              have S1 := Lib.hid (below_chain HB.out hb1.out)
              clear hb1 HT HB
              go_wp2_with fail
              refine (tlen_any T1.out.k).mono ?_
              rw [HN2.out]
              rintro e W2 ⟨rfl, hb2⟩
              have T2 := Lib.hid (T1.out.since hb2.out)
              have S2 := Lib.hid (below_chain S1.out hb2.out)
              clear hb2 T1 S1
              go_wp2_with fail
              refine (tdirty_any T2.out.k).mono ?_
              rw [HD2.out]
              rintro e W3 ⟨rfl, hb3⟩
              have T3 := Lib.hid (T2.out.since hb3.out)
              have S3 := Lib.hid (below_chain S2.out hb3.out)
              clear hb3 T2 S2
              go_wp2_with fail
              refine (tdirty_any T3.out.d).mono ?_
              rw [HD1.out]
              rintro e W4 ⟨rfl, hb4⟩
              have T4 := Lib.hid (T3.out.since hb4.out)
              have S4 := Lib.hid (below_chain S3.out hb4.out)
              clear hb4 T3 S3
              go_wp2_with fail
              refine (tawake_any _).mono ?_
              rintro e W5 ⟨rfl, hb5⟩
              have T5 := Lib.hid (T4.out.since hb5.out)
              have S5 := Lib.hid (below_chain S4.out hb5.out)
              clear hb5 T4 S4
              go_wp2_with fail
              go_ret
              exact ⟨rfl, S5⟩
end Go.Proofs.Ythamnmadgfmbkaa
