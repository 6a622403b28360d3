/- TableCopies: true, whatever its arguments are. Conditions: the lists' cells. -/
import Derived.Test.YthamnmadgfmbkaaTabAwake
import Derived.Test.YthamnmadgfmbkaaEntShared
import Derived.Test.YthamnmadgfmbkaaWords
set_option linter.unusedVariables false
set_option linter.unusedSimpArgs false
namespace Go.Proofs.Ythamnmadgfmbkaa
open Go.RowKit

set_option maxHeartbeats 16000000 in
set_option maxRecDepth 20000 in
theorem copies_law (Aa : Option Addr) (na ca : Nat) (la : List E) (Ab : Option Addr) (nb cb : Nat) (lb : List Nat) (Ac : Option Addr) (nc cc : Nat) (lc : List E) (w : World) (za : na ≤ 9223372036854775807) (zb : nb ≤ 9223372036854775807) (zc : nc ≤ 9223372036854775807)
    (hA : entK.Lie w w.heap.size Aa na la) (hB : Words w w.heap.size Ab nb lb) (hC : entK.Lie w w.heap.size Ac nc lc) :
    Calls Try.prog 7 #[.slice Aa na ca, .slice Ab nb cb, .slice Ac nc cc] w (SaysB w true) := by
  have HA := Lib.hid hA
  have HB := Lib.hid hB
  have HC := Lib.hid hC
  clear hA hB hC
  by_cases h1 : 40 < na
  · go_enter Try.func7, Try.ntmps7
    go_wp2_with fail
    refine (tawake_any _).mono ?_
    rintro e W1 ⟨rfl, hb1⟩
    go_wp2_with fail
    go_ret
    exact ⟨rfl, hb1⟩
  by_cases h2 : 20 < nb
  · go_enter Try.func7, Try.ntmps7
    go_wp2_with fail
    refine (tawake_any _).mono ?_
    rintro e W1 ⟨rfl, hb1⟩
    go_wp2_with fail
    go_ret
    exact ⟨rfl, hb1⟩
  by_cases h3 : 20 < nc
  · go_enter Try.func7, Try.ntmps7
    go_wp2_with fail
    refine (tawake_any _).mono ?_
    rintro e W1 ⟨rfl, hb1⟩
    go_wp2_with fail
    go_ret
    exact ⟨rfl, hb1⟩
  go_enter Try.func7, Try.ntmps7
  go_wp2_with fail
  have n1 : na ≤ 40 := by omega
  have n2 : nb ≤ 20 := by omega
  have n3 : nc ≤ 20 := by omega
  clear h1 h2 h3
  refine (tnew_any _).mono ?_
  rintro e W0 ⟨g, fp0, rfl, hc0, hb0⟩
  have C0 := Lib.hid hc0
  have S0 := Lib.hid hb0
  clear hc0 hb0
  go_wp2_with fail
  go_loopw [8] (fun t8 wr => ∃ (i : Nat) (fp : Nat → Prop) (l : List E), t8 = .int .i64 i ∧ i ≤ na ∧ Hid (l.length ≤ i) ∧ Hid (TabAt wr w.heap.size fp g l) ∧ Hid (Below w.heap.size w wr)) (fun t8 _ => na - (intOf t8).toNat)
  case atStart => exact ⟨0, fp0, [], rfl, Nat.zero_le _, Nat.zero_le _, C0, S0⟩
  clear C0 S0
  case round =>
    obtain ⟨Wa, rfl⟩ : ∃ Wa, Wa = wr := ⟨_, rfl⟩
    obtain ⟨i, fp, l, rfl, hi, HL, HT, HS⟩ := hrel
    have i0 : (0 : Int) ≤ (i : Int) := by omega
    by_cases hlt : i < na
    · have i1 : (i : Int) < (na : Int) := by omega
      obtain ⟨ad, hA, hblk, hat⟩ := ent_at (HA.out.below HS.out) hlt
      have HE : Hid (EWf (getEn la i)) := HA.out.wf i
      obtain ⟨⟨xa, xp, xd, xq⟩, HX⟩ : ∃ x : E, Hid (getEn la i = x) := ⟨_, rfl⟩
      rw [HX.out] at hat HE
      obtain ⟨c0, c1, c2, c3⟩ := hat
      dsimp only at c0 c1 c2 c3
      obtain rfl := hA
      have HLL : Hid (l.length < 120) := by have := HL.out; show _ < _; omega
      go_wp2_with fail
      refine (tput_any ⟨xa, xp, xd, xq⟩ HE.out HT.out HLL.out).mono ?_
      rintro e W1 ⟨fp1, rfl, hc1, hm1⟩
      have S1 := Lib.hid (hm1.below HS.out HT.out.ge HT.out.base_le)
      have T1 := Lib.hid hc1
      have L1 : Hid ((putT l ⟨xa, xp, xd, xq⟩).length ≤ i + 1) := by have := HL.out; have := len_put_le l ⟨xa, xp, xd, xq⟩; show _ ≤ _; omega
      clear hc1 hm1 HT HS HL HLL HE HX c0 c1 c2 c3
      go_wp2_with fail
      go_roundw
      case rel => exact ⟨i + 1, fp1, _, by go_num, by omega, L1, T1, S1⟩
      case measure => simp [intOf]; omega
    · go_wp2_with fail
      have HL40 : Hid (l.length ≤ 40) := by have := HL.out; show _ ≤ _; omega
      clear hlt hi HL
      refine (tall_any HT.out).mono ?_
      rintro e W1 ⟨A1, m1, d1, rfl, hi1, hb1⟩
      obtain ⟨m, HM⟩ : ∃ m, Hid (l.length = m) := ⟨_, rfl⟩
      obtain rfl : m = m1 := by rw [← HM.out]; exact hi1.out.len
      have hm40 : m ≤ 40 := by rw [← HM.out]; exact HL40.out
      have T1 := Lib.hid (HT.out.since hb1.out)
      have S1 := Lib.hid (below_chain HS.out hb1.out)
      have R1 : Hid (RestK entK fp W1 w.heap.size A1 m d1 l) := ⟨(RestK.new hi1.out HT.out.lt).row.elder HS.out.size, (RestK.new hi1.out HT.out.lt).safe⟩
      clear hi1 hb1 HT HS
      go_wp2_with fail
      refine (tcopy_any T1.out).mono ?_
      rintro e W2 ⟨g2, fp2, rfl, hc2, hb2⟩
      have T2 := Lib.hid (Tabs2.of_new T1.out hc2 hb2)
      have S2 := Lib.hid (below_chain S1.out hb2)
      have R2 : Hid (RestK entK (Or2 fp fp2) W2 w.heap.size A1 m d1 l) := ⟨(R1.out.since hb2).row, fun b hb hf => hf.elim (R1.out.safe b hb) fun h => by have := Row.blk_lt R1.out.row b hb; have := hc2.ge b h; omega⟩
      clear hc2 hb2 T1 S1 R1
      go_wp2_with fail
      go_loopw [11] (fun t11 wr => ∃ (j : Nat) (fq : Nat → Prop) (l2 : List E), t11 = .int .i64 j ∧ j ≤ nb ∧ Hid (l2.length ≤ m) ∧ Hid (Tabs2 wr w.heap.size fq fp2 g g2 l2 l) ∧ Hid (RestK entK (Or2 fq fp2) wr w.heap.size A1 m d1 l) ∧ Hid (Below w.heap.size w wr)) (fun t11 _ => nb - (intOf t11).toNat)
      case atStart => exact ⟨0, fp, l, rfl, Nat.zero_le _, Nat.le_of_eq HM.out, T2, R2, S2⟩
      clear T2 S2 R2
      case round =>
        obtain ⟨Wb, rfl⟩ : ∃ Wb, Wb = wr := ⟨_, rfl⟩
        obtain ⟨j, fq, l2, rfl, hj, HL, HT, HR, HS⟩ := hrel
        have j0 : (0 : Int) ≤ (j : Int) := by omega
        by_cases hlt : j < nb
        · have j1 : (j : Int) < (nb : Int) := by omega
          obtain ⟨ad, hA, hblk, hat⟩ := (HB.out.below HS.out).at_ hlt
          have hsm := HB.out.small j
          obtain ⟨x, HX⟩ : ∃ x, Hid (lb.getD j 0 = x) := ⟨_, rfl⟩
          rw [HX.out] at hat hsm
          obtain rfl := hA
          go_wp2_with fail
          refine (tdrop_any (x : Int) (by omega) (by omega) HT.out.d).mono ?_
          rintro e W1 ⟨fp1, rfl, hc1, hm1⟩
          obtain ⟨ht1, hm1⟩ := HT.out.left hc1 hm1
          have T1 := Lib.hid ht1
          have S1 := Lib.hid (HT.out.below HS.out hm1)
          have R1 := Lib.hid (HR.out.step hm1)
          have L1 : Hid ((dropT l2 (x : Int)).length ≤ m) := Nat.le_trans (len_drop_le _ _) HL.out
          clear hc1 hm1 ht1 HT HS HL HR HX hat hsm
          go_wp2_with fail
          go_roundw
          case rel => exact ⟨j + 1, fp1, _, by go_num, by omega, L1, T1, R1, S1⟩
          case measure => simp [intOf]; omega
        · go_wp2_with fail
          clear hlt hj
          refine (tall_any HT.out.k).mono ?_
          rintro e W1 ⟨A2, m2, d2, rfl, hi1, hb1⟩
          obtain rfl : m = m2 := by rw [← HM.out]; exact hi1.out.len
          have T1 := Lib.hid (HT.out.since hb1.out)
          have S1 := Lib.hid (below_chain HS.out hb1.out)
          have R1 := Lib.hid (HR.out.since hb1.out)
          have Q1 := Lib.hid hi1.out.lie
          clear hi1 hb1 HT HS HR
          go_wp2_with fail
          refine (sameentries_since _ _ m _ _ l _ (by omega) Q1.out R1.out.row.lie).mono ?_
          rintro e W2 ⟨rfl, hb2⟩
          have T2 := Lib.hid (T1.out.since hb2.out)
          have S2 := Lib.hid (below_chain S1.out hb2.out)
          have R2 := Lib.hid (R1.out.since hb2.out)
          clear hb2 T1 S1 R1 Q1
          go_wp2_with fail
          refine (tall_any T2.out.d).mono ?_
          rintro e W3 ⟨A3, m3, d3, rfl, hi3, hb3⟩
          have HM3 : Hid (l2.length = m3) := hi3.out.len
          have hm3 : m3 ≤ m := by rw [← HM3.out]; exact HL.out
          have T3 := Lib.hid (T2.out.since hb3.out)
          have S3 := Lib.hid (below_chain S2.out hb3.out)
          have R3 := Lib.hid (R2.out.since hb3.out)
          have Q3 : Hid (RestK entK (Or2 fq fp2) W3 w.heap.size A3 m3 d3 l2) := ⟨(RestK.new hi3.out T2.out.lt).row.elder S2.out.size, (RestK.new hi3.out T2.out.lt).safe⟩
          clear hi3 hb3 T2 S2 R2 HL
          go_wp2_with fail
          go_loopw [13] (fun t13 wr => ∃ (k : Nat) (fk : Nat → Prop) (l3 : List E), t13 = .int .i64 k ∧ k ≤ nc ∧ Hid (m ≤ l3.length ∧ l3.length ≤ m + k) ∧ Hid (∀ q, q < k → (getT l3 (getEn lc q).addr).isSome = true) ∧ Hid (Tabs2 wr w.heap.size fq fk g g2 l2 l3) ∧ Hid (RestK entK (Or2 fq fk) wr w.heap.size A1 m d1 l) ∧ Hid (RestK entK (Or2 fq fk) wr w.heap.size A3 m3 d3 l2) ∧ Hid (Below w.heap.size w wr)) (fun t13 _ => nc - (intOf t13).toNat)
          case atStart => exact ⟨0, fp2, l, rfl, Nat.zero_le _, ⟨Nat.le_of_eq HM.out.symm, Nat.le_of_eq HM.out⟩, fun q hq => absurd hq (Nat.not_lt_zero q), T3, R3, Q3, S3⟩
          clear T3 S3 R3 Q3
          case round =>
            obtain ⟨Wc, rfl⟩ : ∃ Wc, Wc = wr := ⟨_, rfl⟩
            obtain ⟨k, fk, l3, rfl, hk, HL, HG, HT, HR, HQ, HS⟩ := hrel
            have k0 : (0 : Int) ≤ (k : Int) := by omega
            by_cases hlt : k < nc
            · have k1 : (k : Int) < (nc : Int) := by omega
              obtain ⟨ad, hA, hblk, hat⟩ := ent_at (HC.out.below HS.out) hlt
              have HE : Hid (EWf (getEn lc k)) := HC.out.wf k
              obtain ⟨⟨xa, xp, xd, xq⟩, HX⟩ : ∃ x : E, Hid (getEn lc k = x) := ⟨_, rfl⟩
              rw [HX.out] at hat HE
              obtain ⟨c0, c1, c2, c3⟩ := hat
              dsimp only at c0 c1 c2 c3
              obtain rfl := hA
              have HLL : Hid (l3.length < 120) := by have := HL.out; show _ < _; omega
              go_wp2_with fail
              refine (tput_any ⟨xa, xp, xd, xq⟩ HE.out HT.out.k HLL.out).mono ?_
              rintro e W1 ⟨fp1, rfl, hc1, hm1⟩
              obtain ⟨ht1, hm1⟩ := HT.out.right hc1 hm1
              have T1 := Lib.hid ht1
              have S1 := Lib.hid (HT.out.below HS.out hm1)
              have R1 := Lib.hid (HR.out.step hm1)
              have Q1 := Lib.hid (HQ.out.step hm1)
              have L1 : Hid (m ≤ (putT l3 ⟨xa, xp, xd, xq⟩).length ∧ (putT l3 ⟨xa, xp, xd, xq⟩).length ≤ m + (k + 1)) := by
                have := HL.out
                have := len_put_le l3 ⟨xa, xp, xd, xq⟩
                have := len_put_ge HT.out.k.wf.srt ⟨xa, xp, xd, xq⟩
                show _ ∧ _; omega
              have G1 : Hid (∀ q, q < k + 1 → (getT (putT l3 ⟨xa, xp, xd, xq⟩) (getEn lc q).addr).isSome = true) := fun q hq => by
                rw [getT_put]
                by_cases e : xa = (getEn lc q).addr
                · rw [if_pos e]; rfl
                · rw [if_neg e]
                  refine HG.out q ?_
                  by_cases e2 : q = k
                  · subst e2; rw [HX.out] at e; exact absurd rfl e
                  · omega
              clear hc1 hm1 ht1 HT HS HL HR HQ HG HX HE HLL c0 c1 c2 c3
              go_wp2_with fail
              go_roundw
              case rel => exact ⟨k + 1, fp1, _, by go_num, by omega, L1, G1, T1, R1, Q1, S1⟩
              case measure => simp [intOf]; omega
            · obtain rfl : k = nc := by omega
              go_wp2_with fail
              clear hlt hk
              go_loopw [14] (fun t14 wr => ∃ (q : Nat), t14 = .int .i64 q ∧ q ≤ k ∧ Hid (Tabs2 wr w.heap.size fq fk g g2 l2 l3) ∧ Hid (RestK entK (Or2 fq fk) wr w.heap.size A1 m d1 l) ∧ Hid (RestK entK (Or2 fq fk) wr w.heap.size A3 m3 d3 l2) ∧ Hid (Below w.heap.size w wr)) (fun t14 _ => k - (intOf t14).toNat)
              case atStart => exact ⟨0, rfl, Nat.zero_le _, HT, HR, HQ, HS⟩
              clear HT HR HQ HS
              case round =>
                obtain ⟨Wd, rfl⟩ : ∃ Wd, Wd = wr := ⟨_, rfl⟩
                obtain ⟨q, rfl, hq, HT, HR, HQ, HS⟩ := hrel
                have q0 : (0 : Int) ≤ (q : Int) := by omega
                by_cases hlt : q < k
                · have q1 : (q : Int) < (k : Int) := by omega
                  obtain ⟨ad, hA, hblk, hat⟩ := ent_at (HC.out.below HS.out) hlt
                  have HE : Hid (EWf (getEn lc q)) := HC.out.wf q
                  have HGQ := Lib.hid (HG.out q hlt)
                  obtain ⟨⟨xa, xp, xd, xq⟩, HX⟩ : ∃ x : E, Hid (getEn lc q = x) := ⟨_, rfl⟩
                  rw [HX.out] at hat HE HGQ
                  obtain ⟨c0, c1, c2, c3⟩ := hat
                  dsimp only at c0 c1 c2 c3 HGQ
                  obtain rfl := hA
                  obtain ⟨⟨ya, yp, yd, yq⟩, HY⟩ : ∃ y : E, Hid (getT l3 xa = some y) := Option.isSome_iff_exists.1 HGQ.out
                  go_wp2_with fail
                  refine (tget_any xa HE.out.a0 HE.out.a1 HT.out.k).mono ?_
                  rw [HY.out]
                  rintro e W1 ⟨rfl, hb1⟩
                  rw [pairO_some]
                  dsimp only
                  have T1 := Lib.hid (HT.out.since hb1.out)
                  have S1 := Lib.hid (below_chain HS.out hb1.out)
                  have R1 := Lib.hid (HR.out.since hb1.out)
                  have Q1 := Lib.hid (HQ.out.since hb1.out)
                  clear hb1 HT HS HR HQ HX HE HY HGQ c0 c1 c2 c3
                  obtain ⟨W2, HW2⟩ : ∃ W2, Hid (W2 = W1.alloc (.cells #[.int .u64 ya, .int .i64 yp, .bool yd, .int .i64 yq] 32)) := ⟨_, rfl⟩
                  have hb2 : Below W1.heap.size W1 W2 := by rw [HW2.out]; exact later_alloc _ _
                  have T2 := Lib.hid (T1.out.since hb2)
                  have S2 := Lib.hid (below_chain S1.out hb2)
                  have R2 := Lib.hid (R1.out.since hb2)
                  have Q2 := Lib.hid (Q1.out.since hb2)
                  clear T1 S1 R1 Q1 hb2
                  go_wp2_with fail
                  rw [← HW2.out]
                  clear HW2
                  go_roundw
                  case rel => exact ⟨q + 1, by go_num, by omega, T2, R2, Q2, S2⟩
                  case measure => simp [intOf]; omega
                · go_wp2_with fail
                  clear hlt hq HG
                  obtain ⟨z3, HZ3⟩ : ∃ z, Hid (l3.length = z) := ⟨_, rfl⟩
                  have hz3 : m ≤ z3 := by rw [← HZ3.out]; exact HL.out.1
                  have hz4 : z3 ≤ 60 := by rw [← HZ3.out]; have := HL.out.2; omega
                  refine (tall_any HT.out.d).mono ?_
                  rintro e W1 ⟨A2, m2, d2, rfl, hi1, hb1⟩
                  obtain rfl : m3 = m2 := by rw [← HM3.out]; exact hi1.out.len
                  have T1 := Lib.hid (HT.out.since hb1.out)
                  have S1 := Lib.hid (below_chain HS.out hb1.out)
                  have Q1 := Lib.hid (HQ.out.since hb1.out)
                  have P1 := Lib.hid hi1.out.lie
                  clear hi1 hb1 HT HS HR HQ HL
                  go_wp2_with fail
                  refine (sameentries_since _ _ m3 _ _ l2 _ (by omega) P1.out Q1.out.row.lie).mono ?_
                  rintro e W2 ⟨rfl, hb2⟩
                  have T2 := Lib.hid (T1.out.since hb2.out)
                  have S2 := Lib.hid (below_chain S1.out hb2.out)
                  clear hb2 T1 S1 Q1 P1
                  go_wp2_with fail
                  refine (tlen_any T2.out.k).mono ?_
                  rw [HZ3.out]
                  rintro e W3 ⟨rfl, hb3⟩
                  have T3 := Lib.hid (T2.out.since hb3.out)
                  have S3 := Lib.hid (below_chain S2.out hb3.out)
                  clear hb3 T2 S2
                  go_wp2_with fail
                  refine (tlen_any T3.out.d).mono ?_
                  rw [HM3.out]
                  rintro e W4 ⟨rfl, hb4⟩
                  have S4 := Lib.hid (below_chain S3.out hb4.out)
                  clear hb4 T3 S3
                  go_wp2_with fail
                  refine (tawake_any _).mono ?_
                  rintro e W5 ⟨rfl, hb5⟩
                  have S5 := Lib.hid (below_chain S4.out hb5.out)
                  clear hb5 S4
                  go_wp2_with fail
                  go_ret
                  exact ⟨rfl, S5⟩
end Go.Proofs.Ythamnmadgfmbkaa
