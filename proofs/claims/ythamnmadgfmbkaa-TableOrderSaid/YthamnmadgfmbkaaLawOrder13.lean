/- TableOrder: true, whatever its arguments are. Conditions: the list's cells. -/
import Derived.Test.YthamnmadgfmbkaaTabAwake
import Derived.Test.YthamnmadgfmbkaaEntShared
import Derived.Test.YthamnmadgfmbkaaOrderMath
import Derived.Test.YthamnmadgfmbkaaAppAll
import Derived.Test.YthamnmadgfmbkaaShared
set_option linter.unusedVariables false
set_option linter.unusedSimpArgs false
namespace Go.Proofs.Ythamnmadgfmbkaa
open Go.RowKit

theorem ord_p1 (f : Int) (h0 : 0 ≤ f) (h1 : f < 18446744073709551615) : IntKind.u64.wrap (f + 1) = f + 1 := by rw [IntKind.wrap_u64]; omega
set_option maxHeartbeats 16000000 in
set_option maxRecDepth 20000 in
theorem order_law (Aa : Option Addr) (na ca : Nat) (la : List E) (x : Int) (w : World) (za : na ≤ 9223372036854775807) (hA : entK.Lie w w.heap.size Aa na la) :
    Calls Try.prog 4 #[.slice Aa na ca, .int .i64 x] w (SaysB w true) := by
  have HA := Lib.hid hA
  have HLA : Hid (la.length = na) := hA.len
  clear hA
  by_cases h1 : 60 < na
  · go_enter Try.func4, Try.ntmps4
    go_wp2_with fail
    refine (tawake_any _).mono ?_
    rintro e W1 ⟨rfl, hb1⟩
    go_wp2_with fail
    go_ret
    exact ⟨rfl, hb1⟩
  obtain ⟨mm, HMM⟩ : ∃ mm : Nat, Hid (lowM x 9 = (mm : Int)) := ⟨(lowM x 9).toNat, by have := lowM_bd x 9 (by omega); show _ = _; omega⟩
  have hmm : mm ≤ 8 := by have := lowM_bd x 9 (by omega); have := HMM.out; omega
  have n1 : na ≤ 60 := by omega
  go_enter Try.func4, Try.ntmps4
  go_wp2_with fail
  clear h1
  refine (tnew_any _).mono ?_
  rintro e W0 ⟨g, fp0, rfl, hc0, hb0⟩
  have C0 := Lib.hid hc0
  have S0 := Lib.hid hb0
  clear hc0 hb0
  go_wp2_with fail
  refine (tnew_any _).mono ?_
  rintro e W1 ⟨g2, fp2, rfl, hc2, hb2⟩
  have T1 := Lib.hid (Tabs2.of_new C0.out hc2 hb2)
  have S1 := Lib.hid (below_chain S0.out hb2)
  clear hc2 hb2 C0 S0
  go_wp2_with fail
  go_loopw [7] (fun t7 wr => ∃ (i : Nat) (fp : Nat → Prop) (l : List E), t7 = .int .i64 i ∧ i ≤ na ∧ Hid (l.length ≤ i) ∧ Hid (∀ a, getT l a = lastE (la.take i) a) ∧ Hid (Tabs2 wr w.heap.size fp fp2 g g2 l []) ∧ Hid (Below w.heap.size w wr)) (fun t7 _ => na - (intOf t7).toNat)
  case atStart => exact ⟨0, fp0, [], rfl, Nat.zero_le _, Nat.zero_le _, fun a => rfl, T1, S1⟩
  clear T1 S1
  case round =>
    obtain ⟨Wa, rfl⟩ : ∃ Wa, Wa = wr := ⟨_, rfl⟩
    obtain ⟨i, fp, l, rfl, hi, HL, HG, HT, HS⟩ := hrel
    have i0 : (0 : Int) ≤ (i : Int) := by omega
    by_cases hlt : i < na
    · have i1 : (i : Int) < (na : Int) := by omega
      obtain ⟨ad, hA, hblk, hat⟩ := ent_at (HA.out.below HS.out) hlt
      have HE : Hid (EWf (getEn la i)) := HA.out.wf i
      have HG1 := Lib.hid (ord_put (es := la) (by rw [HLA.out]; exact hlt) HG.out)
      obtain ⟨⟨xa, xp, xd, xq⟩, HX⟩ : ∃ x : E, Hid (getEn la i = x) := ⟨_, rfl⟩
      rw [show la.getD i E.zero = ⟨xa, xp, xd, xq⟩ from HX.out] at HG1
      rw [HX.out] at hat HE
      obtain ⟨c0, c1, c2, c3⟩ := hat
      dsimp only at c0 c1 c2 c3
      obtain rfl := hA
      have HLL : Hid (l.length < 120) := by have := HL.out; show _ < _; omega
      go_wp2_with fail
      refine (tput_any ⟨xa, xp, xd, xq⟩ HE.out HT.out.d HLL.out).mono ?_
      rintro e W1 ⟨fp1, rfl, hc1, hm1⟩
      obtain ⟨ht1, hm1⟩ := HT.out.left hc1 hm1
      have T1 := Lib.hid ht1
      have S1 := Lib.hid (HT.out.below HS.out hm1)
      have L1 : Hid ((putT l ⟨xa, xp, xd, xq⟩).length ≤ i + 1) := by have := HL.out; have := len_put_le l ⟨xa, xp, xd, xq⟩; show _ ≤ _; omega
      clear hc1 hm1 ht1 HT HS HL HG HLL HE HX c0 c1 c2 c3
      go_wp2_with fail
      go_roundw
      case rel => exact ⟨i + 1, fp1, _, by go_num, by omega, L1, HG1, T1, S1⟩
      case measure => simp [intOf]; omega
    · go_wp2_with fail
      obtain rfl : i = na := by omega
      clear hlt hi
      have r0 : (i : Int) - 1 = (i : Int) - 1 - ((0 : Nat) : Int) := by omega
      go_loopw [8] (fun t8 wr => ∃ (r : Nat) (fq : Nat → Prop) (m : List E), t8 = .int .i64 ((i : Int) - 1 - (r : Int)) ∧ r ≤ i ∧ Hid (m.length ≤ r) ∧ Hid (∀ a, getT m a = lastE (la.drop (i - r)) a) ∧ Hid (Tabs2 wr w.heap.size fp fq g g2 l m) ∧ Hid (Below w.heap.size w wr)) (fun t8 _ => (intOf t8 + 1).toNat)
      case atStart => exact ⟨0, fp2, [], by rw [← r0], Nat.zero_le _, Nat.zero_le _, fun a => by rw [Nat.sub_zero, ← HLA.out, List.drop_length]; rfl, HT, HS⟩
      clear HT HS r0
      case round =>
        obtain ⟨Wb, rfl⟩ : ∃ Wb, Wb = wr := ⟨_, rfl⟩
        obtain ⟨r, fq, m, rfl, hr, HLM, HGM, HT, HS⟩ := hrel
        by_cases hlt : r < i
        · obtain ⟨q, hq⟩ : ∃ q : Nat, (i : Int) - 1 - (r : Int) = (q : Int) := ⟨i - 1 - r, by omega⟩
          have hqn : i - r = q + 1 := by omega
          have hqn2 : i - (r + 1) = q := by omega
          have hqi : q < i := by omega
          have HNX : Hid ((q : Int) - 1 = (i : Int) - 1 - ((r + 1 : Nat) : Int)) := by show _ = _; omega
          rw [hq]
          rw [hqn] at HGM
          have q0 : (0 : Int) ≤ (q : Int) := by omega
          have q1 : (q : Int) < (i : Int) := by omega
          have hr' : r + 1 ≤ i := by omega
          clear hq hqn hlt hr
          obtain ⟨ad, hA, hblk, hat⟩ := ent_at (HA.out.below HS.out) hqi
          have HE : Hid (EWf (getEn la q)) := HA.out.wf q
          have GS := Lib.hid (ord_skip (es := la) (by rw [HLA.out]; exact hqi) HGM.out)
          have GN := Lib.hid (ord_new (es := la) (by rw [HLA.out]; exact hqi) HGM.out)
          obtain ⟨⟨xa, xp, xd, xq⟩, HX⟩ : ∃ x : E, Hid (getEn la q = x) := ⟨_, rfl⟩
          rw [show la.getD q E.zero = ⟨xa, xp, xd, xq⟩ from HX.out] at GS GN
          rw [HX.out] at hat HE
          have HCL : Hid (EntAt Wb (ad.add (q * 4)) ⟨xa, xp, xd, xq⟩ ∧ (ad.add (q * 4)).block < Wb.heap.size) := ⟨hat, by rw [addr_block]; exact Nat.lt_of_lt_of_le hblk HS.out.size⟩
          obtain ⟨c0, c1, c2, c3⟩ := hat
          dsimp only at c0 c1 c2 c3
          obtain rfl := hA
          go_wp2_with fail
          refine (tget_any xa HE.out.a0 HE.out.a1 HT.out.k).mono ?_
          rintro e W1 ⟨rfl, hb1⟩
          have T1 := Lib.hid (HT.out.since hb1.out)
          have S1 := Lib.hid (below_chain HS.out hb1.out)
          have K1 : Hid (EntAt W1 (ad.add (q * 4)) ⟨xa, xp, xd, xq⟩ ∧ (ad.add (q * 4)).block < W1.heap.size) := ⟨HCL.out.1.since HCL.out.2 hb1.out, Nat.lt_of_lt_of_le HCL.out.2 hb1.out.size⟩
          clear hb1 HT HS HCL c0 c1 c2 c3
          rw [pairO_any]
          obtain ⟨⟨ya, yp, yd, yq⟩, HY⟩ : ∃ y, Hid ((getT m xa).getD E.zero = y) := ⟨_, rfl⟩
          obtain ⟨is_, HIS⟩ : ∃ is_, Hid ((getT m xa).isSome = is_) := ⟨_, rfl⟩
          rw [HY.out, HIS.out]
          dsimp only
          obtain ⟨W2, HW2⟩ : ∃ W2, Hid (W2 = W1.alloc (.cells #[.int .u64 ya, .int .i64 yp, .bool yd, .int .i64 yq] 32)) := ⟨_, rfl⟩
          have hb2 : Below W1.heap.size W1 W2 := by rw [HW2.out]; exact later_alloc _ _
          have T2 := Lib.hid (T1.out.since hb2)
          have S2 := Lib.hid (below_chain S1.out hb2)
          have K2 : EntAt (W1.alloc (.cells #[.int .u64 ya, .int .i64 yp, .bool yd, .int .i64 yq] 32)) (ad.add (q * 4)) ⟨xa, xp, xd, xq⟩ := by rw [← HW2.out]; exact K1.out.1.since K1.out.2 hb2
          obtain ⟨d0, d1, d2, d3⟩ := K2
          dsimp only at d0 d1 d2 d3
          clear hb2 T1 S1 K1 HY
          cases is_ with
          | true =>
            have G1 : Hid (∀ a, getT m a = lastE (la.drop (i - (r + 1))) a) := by rw [hqn2]; exact GS.out HIS.out
            have L1 : Hid (m.length ≤ r + 1) := Nat.le_succ_of_le HLM.out
            clear d0 d1 d2 d3 GS GN HIS HGM HLM HX HE
            go_wp2_with fail
            rw [← HW2.out]
            clear HW2
            go_roundw
            case rel => exact ⟨r + 1, fq, m, by rw [← HNX.out], hr', L1, G1, T2, S2⟩
            case measure => simp only [intOf]; omega
          | false =>
            have G1 : Hid (∀ a, getT (putT m ⟨xa, xp, xd, xq⟩) a = lastE (la.drop (i - (r + 1))) a) := by rw [hqn2]; exact GN.out HIS.out
            have L1 : Hid ((putT m ⟨xa, xp, xd, xq⟩).length ≤ r + 1) := by have := HLM.out; have := len_put_le m ⟨xa, xp, xd, xq⟩; show _ ≤ _; omega
            have HLL : Hid (m.length < 120) := by have := HLM.out; show _ < _; omega
            clear GS GN HIS HGM HLM HX
            go_wp2_with fail
            rw [← HW2.out]
            clear HW2 d0 d1 d2 d3
            refine (tput_any ⟨xa, xp, xd, xq⟩ HE.out T2.out.k HLL.out).mono ?_
            rintro e W3 ⟨fp1, rfl, hc1, hm1⟩
            obtain ⟨ht1, hm1⟩ := T2.out.right hc1 hm1
            have T3 := Lib.hid ht1
            have S3 := Lib.hid (T2.out.below S2.out hm1)
            clear hc1 hm1 ht1 T2 S2 HLL HE
            go_wp2_with fail
            go_roundw
            case rel => exact ⟨r + 1, fp1, _, by rw [← HNX.out], hr', L1, G1, T3, S3⟩
            case measure => simp only [intOf]; omega
        · obtain rfl : r = i := by omega
          have HEQ : Hid (m = l) := ord_end HT.out.d.wf.srt HT.out.k.wf.srt (by rw [HLA.out]; exact HG.out) (by have := HGM.out; rwa [Nat.sub_self] at this)
          rw [HEQ.out] at HT
          have rr : (r : Int) - 1 - (r : Int) = -1 := by omega
          rw [rr]
          go_wp2_with fail
          clear hlt hr rr HEQ HGM HLM HG
          refine (tall_any HT.out.d).mono ?_
          rintro e W1 ⟨A1, m1, d1, rfl, hi1, hb1⟩
          have HM : Hid (l.length = m1) := hi1.out.len
          have hm1 : m1 ≤ 60 := by have := HL.out; rw [← HM.out]; omega
          have HW : Hid (TW l) := HT.out.d.wf
          have T1 := Lib.hid (HT.out.since hb1.out)
          have S1 := Lib.hid (below_chain HS.out hb1.out)
          have R1 : Hid (entK.Row W1 w.heap.size A1 m1 d1 l) := hi1.out.elder HS.out.size
          clear hi1 hb1 HT HS HL
          go_wp2_with fail
          go_loopw [12] (fun t12 wr => ∃ (k : Nat), t12 = .int .i64 k ∧ 1 ≤ k ∧ (k ≤ m1 ∨ k = 1) ∧ Hid (Tabs2 wr w.heap.size fp fq g g2 l l) ∧ Hid (entK.Row wr w.heap.size A1 m1 d1 l) ∧ Hid (Below w.heap.size w wr)) (fun t12 _ => m1 + 1 - (intOf t12).toNat)
          case atStart => exact ⟨1, rfl, Nat.le_refl _, Or.inr rfl, T1, R1, S1⟩
          clear T1 R1 S1
          case round =>
            obtain ⟨Wc, rfl⟩ : ∃ Wc, Wc = wr := ⟨_, rfl⟩
            obtain ⟨k, rfl, hk1, hk2, HT, HR, HS⟩ := hrel
            have k0 : (0 : Int) ≤ (k : Int) := by omega
            by_cases hlt : k < m1
            · have k1 : (k : Int) < (m1 : Int) := by omega
              obtain ⟨ad, hA, hblk, hat⟩ := ent_at HR.out.lie hlt
              obtain ⟨ad', hA', hblk', hat'⟩ := ent_at HR.out.lie (k := k - 1) (by omega)
              obtain rfl : ad = ad' := Option.some.inj (hA.symm.trans hA')
              obtain rfl := hA
              have hst := srt_step (l := l) HW.out.srt (j := k - 1) (by rw [HM.out]; omega)
              rw [show k - 1 + 1 = k by omega] at hst
              have a0 := hat.c0
              have b0 := hat'.c0
              obtain ⟨u, HU⟩ : ∃ u, Hid ((getEn l k).addr = u) := ⟨_, rfl⟩
              obtain ⟨v, HV⟩ : ∃ v, Hid ((getEn l (k - 1)).addr = v) := ⟨_, rfl⟩
              rw [HU.out] at a0
              rw [HV.out] at b0
              rw [show (l.getD k E.zero).addr = u from HU.out, show (l.getD (k - 1) E.zero).addr = v from HV.out] at hst
              have hle : ¬ u ≤ v := by omega
              have hix : ∀ W : World, (Instr.indexAt 27 (.slice (some ad) m1 d1) (.int .i64 ((k : Int) - 1))).run Try.prog W = .ok (.pointer (some (ad.add ((k - 1) * 4)))) W := fun W => by
                have j0 : (0 : Int) ≤ (k : Int) - 1 := by omega
                have j1 : (k : Int) - 1 < (m1 : Int) := by omega
                have e : ((k : Int) - 1).toNat = k - 1 := by omega
                go_simp
                intro h
                omega
              have hwr : IntKind.i64.wrap ((k : Int) - 1) = (k : Int) - 1 := by rw [IntKind.wrap_i64]; omega
              clear hat hat' hst HU HV hA'
              go_wp2_with fail
              go_quiet (fail)
              go_wp2_with fail
              go_roundw
              case rel => exact ⟨k + 1, by go_num, by omega, Or.inl (by omega), Lib.hid (HT.out.since (below_drewN (Below.refl _ _) _)), Lib.hid (HR.out.since (below_drewN (Below.refl _ _) _)), below_drewN HS.out _⟩
              case measure => simp [intOf]; omega
            · go_wp2_with fail
              clear hlt hk1 hk2 k0
              refine (low_any x 9 (by omega) (by omega) _).mono ?_
              rw [HMM.out]
              rintro e w' ⟨rfl, rfl⟩
              obtain ⟨M, HAD⟩ : ∃ M : Nat, Hid ((1 : Int) + (mm : Int) = (M : Int)) := ⟨1 + mm, by show _ = _; omega⟩
              have hM : 1 ≤ M ∧ M ≤ 9 := by have := HAD.out; omega
              have hM1 : 1 ≤ M := hM.1
              have hM9 : M ≤ 9 := hM.2
              have HWM : Hid (wrap64 (M : Int) = (M : Int)) := by show _ = _; unfold wrap64; omega
              clear hM HMM hmm
              go_wp2_with (simp only [HAD.out, HWM.out])
              try rw [HWM.out]
              clear HAD HWM
              have P0 : Hid (RestK entK (fun b => Or2 fp fq b ∨ b ∈ blk A1) Wc w.heap.size none 0 0 (l.take 0)) := ⟨Kind.Row.none_, fun b hb => by cases hb⟩
              go_loopw [13, 14, 15, 16] (fun t13 t14 t15 t16 wr => ∃ (k i : Nat) (A3 : Option Addr) (c3 : Nat) (f : Int) (b : Bool), t13 = .slice A3 i c3 ∧ t14 = .int .u64 f ∧ t15 = .bool b ∧ t16 = .int .i64 k ∧ k ≤ 61 ∧ i ≤ m1 ∧ 0 ≤ f ∧ f ≤ 18446744073709551615 ∧ Hid (b = false → Left l f i ∧ k ≤ i) ∧ Hid (b = true → i = m1) ∧ Hid (RestK entK (fun b => Or2 fp fq b ∨ b ∈ blk A1) wr w.heap.size A3 i c3 (l.take i)) ∧ Hid (Tabs2 wr w.heap.size fp fq g g2 l l) ∧ Hid (entK.Row wr w.heap.size A1 m1 d1 l) ∧ Hid (Below w.heap.size w wr)) (fun _ _ _ t16 _ => 70 - (intOf t16).toNat)
              case atStart => exact ⟨0, 0, none, 0, 0, false, rfl, rfl, rfl, rfl, by omega, Nat.zero_le _, by omega, by omega, fun _ => ⟨left_zero HW.out.wf, Nat.le_refl _⟩, (fun h => by cases h), P0, HT, HR, HS⟩
              clear P0 HT HR HS
              case round =>
                obtain ⟨Wd, rfl⟩ : ∃ Wd, Wd = wr := ⟨_, rfl⟩
                obtain ⟨k, i, A3, c3, f, b, rfl, rfl, rfl, rfl, hk, hi, f0, f1, HF, HEN, HP, HT, HR, HS⟩ := hrel
                cases b with
                | false =>
                  obtain ⟨hleft, hki⟩ := HF.out rfl
                  have hLEFT := Lib.hid (left_from hleft (M : Int))
                  have hk70 : k < 70 := by omega
                  have k0 : (0 : Int) ≤ (k : Int) := by omega
                  have k1 : (k : Int) < 70 := by omega
                  clear hleft HF HEN
                  go_wp2_with fail
                  refine (tfrom_any f (M : Int) false f0 f1 (by omega) (by omega) HT.out.d).mono ?_
                  rw [hLEFT.out, Int.toNat_natCast]
                  rintro e W1 ⟨A4, n4, c4, rfl, hi4, hb4⟩
                  have HN4 : Hid (min M (m1 - i) = n4) := by have := hi4.out.len; rw [part_len, HM.out] at this; exact this
                  have T1 := Lib.hid (HT.out.since hb4.out)
                  have S1 := Lib.hid (below_chain HS.out hb4.out)
                  have R1 := Lib.hid (HR.out.since hb4.out)
                  have P1 := Lib.hid (HP.out.since hb4.out)
                  have Q1 : Hid (entK.Row W1 Wd.heap.size A4 n4 c4 ((l.drop i).take M)) := hi4.out
                  have hlt3 : ∀ b ∈ blk A3, b < Wd.heap.size := Row.blk_lt HP.out.row
                  have hz1 : Wd.heap.size ≤ W1.heap.size := hb4.out.size
                  have hf1 : ∀ b, (Or2 fp fq b ∨ b ∈ blk A1) → b < W1.heap.size := fun b hb => hb.elim (T1.out.lt b) (Row.blk_lt R1.out b)
                  have hn4 : n4 ≤ M := by have := HN4.out; omega
                  have hn4i : i + n4 ≤ m1 := by have := HN4.out; omega
                  obtain ⟨A5, c5, W2, hr5, hp5, ht5⟩ := P1.out.append_all (c' := c4) Q1.out.lie S1.out.size hf1 (by omega)
                  have HR5 := Lib.hid hr5
                  have HIN : Hid (l.take i ++ (l.drop i).take M = l.take (i + n4)) := by
                    show _ = _
                    rw [take_more]
                    have := HN4.out
                    by_cases h : M ≤ m1 - i
                    · rw [show n4 = M by omega]
                    · rw [List.take_of_length_le (by rw [HM.out]; omega), List.take_of_length_le (by rw [HM.out]; omega)]
                  have P2 : Hid (RestK entK (fun b => Or2 fp fq b ∨ b ∈ blk A1) W2 w.heap.size A5 (i + n4) c5 (l.take (i + n4))) := by rw [← HIN.out]; exact hp5
                  have T2 : Hid (Tabs2 W2 w.heap.size fp fq g g2 l l) := ⟨T1.out.d.keep ht5 (fun b h1 h2 => HP.out.safe b h1 (Or.inl (Or.inl h2))), T1.out.k.keep ht5 (fun b h1 h2 => HP.out.safe b h1 (Or.inl (Or.inr h2))), T1.out.two⟩
                  have R2 : Hid (entK.Row W2 w.heap.size A1 m1 d1 l) := Row.at_block R1.out fun b hb => ht5.block b (Row.blk_lt R1.out b hb) fun h => HP.out.safe b h (Or.inr hb)
                  have Q2 : Hid (entK.Row W2 Wd.heap.size A4 n4 c4 ((l.drop i).take M)) := Row.at_block Q1.out fun b hb => ht5.block b (Row.blk_lt Q1.out b hb) fun h => by have := Row.blk_ge Q1.out b hb; have := hlt3 b h; omega
                  have S2 := Lib.hid (ht5.chain S1.out (fun b hb => Row.blk_ge HP.out.row b hb) S1.out.size)
                  clear hr5 hp5 ht5 hi4 hb4 HT HS HR HP T1 S1 R1 P1 Q1 hlt3 hz1 hf1 HIN hLEFT
                  by_cases hsh : n4 < M
                  · have G1 : Hid (i + n4 = m1) := by have := HN4.out; show _ = _; omega
                    clear HN4 Q2
                    go_wp2_with (at_builtin; refine wpList_append_run rfl (.tmp 106) (.tmp 107) 27 rfl rfl rfl HR5.out ?_)
                    go_roundw
                    case rel => exact ⟨k + 1, i + n4, A5, c5, f, true, rfl, rfl, rfl, by go_num, by omega, hn4i, f0, f1, (fun h => by cases h), (fun _ => G1.out), P2, T2, R2, S2⟩
                    case measure => simp [intOf]; omega
                  · obtain rfl : n4 = M := by omega
                    clear hsh HN4 hn4
                    obtain ⟨ad, hA, hblk, hat⟩ := ent_at Q2.out.lie (k := n4 - 1) (by omega)
                    obtain rfl := hA
                    have hpa := part_at (l := l) (i := i) (j := n4 - 1) (n := n4) (by omega) (by rw [HM.out]; omega)
                    have a0 := hat.c0
                    obtain ⟨u, HU⟩ : ∃ u, Hid ((l.getD (i + (n4 - 1)) E.zero).addr = u) := ⟨_, rfl⟩
                    rw [show (getEn ((l.drop i).take n4) (n4 - 1)).addr = u from (congrArg E.addr hpa).trans HU.out] at a0
                    have hwf : EWf (l.getD (i + (n4 - 1)) E.zero) := HW.out.wf _ (by rw [List.getD_eq_getElem?_getD, List.getElem?_eq_getElem (by rw [HM.out]; omega)]; exact List.getElem_mem _)
                    have u0 : 0 ≤ u := by rw [← HU.out]; exact hwf.a0
                    have u1 : u ≤ 18446744073709551615 := by rw [← HU.out]; exact hwf.a1
                    have hix : ∀ W : World, (Instr.indexAt 27 (.slice (some ad) n4 c4) (.int .i64 ((n4 : Int) - 1))).run Try.prog W = .ok (.pointer (some (ad.add ((n4 - 1) * 4)))) W := fun W => by
                      have j0 : (0 : Int) ≤ (n4 : Int) - 1 := by omega
                      have j1 : (n4 : Int) - 1 < (n4 : Int) := by omega
                      have e : ((n4 : Int) - 1).toNat = n4 - 1 := by omega
                      go_simp
                      intro h
                      omega
                    clear hat hpa hwf Q2 hblk
                    by_cases hmx : u = 18446744073709551615
                    · have G1 : Hid (i + n4 = m1) := by
                        have := last_all HW.out (j := i + (n4 - 1)) (by rw [HM.out]; omega) (by rw [HU.out]; exact hmx)
                        rw [HM.out] at this; show _ = _; omega
                      subst hmx
                      clear HU u0 u1
                      go_wp2_with (at_builtin; refine wpList_append_run rfl (.tmp 106) (.tmp 107) 27 rfl rfl rfl HR5.out ?_)
                      go_roundw
                      case rel => exact ⟨k + 1, i + n4, A5, c5, f, true, rfl, rfl, rfl, by go_num, by omega, hn4i, f0, f1, (fun h => by cases h), (fun _ => G1.out), P2, T2, R2, S2⟩
                      case measure => simp [intOf]; omega
                    · have G1 : Hid (Left l (u + 1) (i + n4) ∧ k + 1 ≤ i + n4) := by
                        have := left_next HW.out.srt (j := i + (n4 - 1)) (by rw [HM.out]; omega)
                        rw [HU.out, show i + (n4 - 1) + 1 = i + n4 by omega] at this
                        exact ⟨this, by omega⟩
                      have HWR := Lib.hid (ord_p1 u u0 (by omega))
                      have hub : (u == 18446744073709551615) = false := by simp [hmx]
                      clear HU
                      go_wp2_with (first | (simp only [HWR.out]) | (at_builtin; refine wpList_append_run rfl (.tmp 106) (.tmp 107) 27 rfl rfl rfl HR5.out ?_))
                      go_roundw
                      case rel => exact ⟨k + 1, i + n4, A5, c5, u + 1, false, rfl, by first | rfl | rw [HWR.out], rfl, by go_num, by omega, hn4i, by omega, by omega, (fun _ => G1.out), (fun h => by cases h), P2, T2, R2, S2⟩
                      case measure => simp [intOf]; omega
                | true =>
                  obtain rfl : i = m1 := HEN.out rfl
                  have HTK : Hid (l.take i = l) := List.take_of_length_le (Nat.le_of_eq HM.out)
                  rw [HTK.out] at HP
                  have HPL := Lib.hid HP.out.row.lie
                  have HRL := Lib.hid HR.out.lie
                  have k0 : (0 : Int) ≤ (k : Int) := by omega
                  have k1 : (k : Int) < 70 := by omega
                  have hi60 : i ≤ 60 := by omega
                  clear HF HEN HP hi f0 f1 HTK
                  go_wp2_with fail
                  clear k0 k1
                  refine (sameentries_since _ _ i _ _ l _ (by omega) HPL.out HRL.out).mono ?_
                  rintro e W1 ⟨rfl, hb1⟩
                  have T1 := Lib.hid (HT.out.since hb1.out)
                  have S1 := Lib.hid (below_chain HS.out hb1.out)
                  have R1 := Lib.hid (HR.out.since hb1.out)
                  clear hb1 HT HS HR HPL HRL
                  go_wp2_with fail
                  refine (tall_any T1.out.k).mono ?_
                  rintro e W2 ⟨A6, n6, c6, rfl, hi6, hb6⟩
                  obtain rfl : i = n6 := by rw [← HM.out]; exact hi6.out.len
                  have T2 := Lib.hid (T1.out.since hb6.out)
                  have S2 := Lib.hid (below_chain S1.out hb6.out)
                  have R2 := Lib.hid (R1.out.since hb6.out)
                  have Q2 := Lib.hid hi6.out.lie
                  clear hb6 hi6 T1 S1 R1
                  go_wp2_with fail
                  refine (sameentries_since _ _ i _ _ l _ (by omega) Q2.out R2.out.lie).mono ?_
                  rintro e W3 ⟨rfl, hb3⟩
                  have T3 := Lib.hid (T2.out.since hb3.out)
                  have S3 := Lib.hid (below_chain S2.out hb3.out)
                  clear hb3 T2 S2 R2 Q2
                  go_wp2_with fail
                  refine (tlen_any T3.out.d).mono ?_
                  rw [HM.out]
                  rintro e W4 ⟨rfl, hb4⟩
                  have S4 := Lib.hid (below_chain S3.out hb4.out)
                  clear hb4 T3 S3
                  go_wp2_with fail
                  refine (tawake_any _).mono ?_
                  rintro e W5 ⟨rfl, hb5⟩
                  have S5 := Lib.hid (below_chain S4.out hb5.out)
                  clear hb5 S4
                  go_wp2_with fail
                  go_ret
                  exact ⟨rfl, S5⟩
end Go.Proofs.Ythamnmadgfmbkaa
