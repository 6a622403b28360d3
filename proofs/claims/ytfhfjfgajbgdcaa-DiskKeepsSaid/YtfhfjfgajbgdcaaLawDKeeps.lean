/- DiskKeeps: true, whatever its arguments are. Conditions: the lists' cells. -/
import Derived.Test.YtfhfjfgajbgdcaaDiskAwake
set_option linter.unusedVariables false
set_option linter.unusedSimpArgs false
namespace Go.Proofs.Ytfhfjfgajbgdcaa
open Go.RowKit

/-- The last one that lasts. -/
def wantI (first : Int) (ns : List Int) (keep : List Bool) : Nat → Int
  | 0 => first
  | i + 1 => if keepB keep i = true then ns.getD i 0 else wantI first ns keep i
def manyI (keep : List Bool) : Nat → Nat
  | 0 => 0
  | i + 1 => if keepB keep i = true then manyI keep i + 1 else manyI keep i
def keepF (x : Int) : List (List Nat) := (List.replicate 3 (List.replicate 128 0)).set 1 (fillL x 128)
def keepW (ns : List Int) (i : Nat) : List (Int × List Nat) := (List.range i).map fun (k : Nat) => ((1 : Int), fillL (ns.getD k 0) 128)
def keepSt (first : Int) (ns : List Int) (i : Nat) : RD := ⟨keepF first, keepW ns i, [false, false, false], 128⟩
def keepEnd (x : Int) : RD := ⟨keepF x, [], [false, false, false], 128⟩
theorem keepW_len (ns : List Int) (i : Nat) : (keepW ns i).length = i := by unfold keepW; rw [List.length_map, List.length_range]
theorem keepW_next (ns : List Int) (i : Nat) : keepW ns (i + 1) = keepW ns i ++ [(1, fillL (ns.getD i 0) 128)] := by unfold keepW; rw [List.range_succ, List.map_append]; rfl
theorem keepW_at (ns : List Int) {i k : Nat} (hk : k < i) : waitAt (keepW ns i) k = (1, fillL (ns.getD k 0) 128) := by
  unfold waitAt keepW
  rw [List.getD_eq_getElem?_getD, List.getElem?_map, List.getElem?_range hk]; rfl
theorem keep_first (first : Int) : (afterWrite (freshD 3 128 []) 1 (fillL first 128), writeO (freshD 3 128 []) 1 (fillL first 128).length) = ((⟨List.replicate 3 (List.replicate 128 0), [(1, fillL first 128)], [false, false, false], 128⟩ : RD), 0) := by
  have w0 : writeO (freshD 3 128 []) 1 (fillL first 128).length = 0 := by rw [fillL_len]; rfl
  have a0 : afterWrite (freshD 3 128 []) 1 (fillL first 128) = ⟨List.replicate 3 (List.replicate 128 0), [(1, fillL first 128)], [false, false, false], 128⟩ := by unfold afterWrite; rw [w0, if_pos rfl]; rfl
  rw [w0, a0]
theorem keep_flush (first : Int) (ns : List Int) : afterCrash ⟨List.replicate 3 (List.replicate 128 0), [(1, fillL first 128)], [false, false, false], 128⟩ [true] = keepSt first ns 0 := rfl
theorem keep_write (first : Int) (ns : List Int) (i : Nat) : (afterWrite (keepSt first ns i) 1 (fillL (ns.getD i 0) 128), writeO (keepSt first ns i) 1 (fillL (ns.getD i 0) 128).length) = (keepSt first ns (i + 1), 0) := by
  have w0 : writeO (keepSt first ns i) 1 (fillL (ns.getD i 0) 128).length = 0 := by rw [fillL_len]; rfl
  have a0 : afterWrite (keepSt first ns i) 1 (fillL (ns.getD i 0) 128) = keepSt first ns (i + 1) := by
    unfold afterWrite
    rw [w0, if_pos rfl]
    unfold keepSt
    rw [keepW_next]
  rw [w0, a0]
theorem keep_read (first : Int) (ns : List Int) (i : Nat) : readO (keepSt first ns (i + 1)) 1 = (0, fillL (ns.getD i 0) 128) := by
  have h : lastW 1 (keepW ns (i + 1)) = some (fillL (ns.getD i 0) 128) := by
    unfold lastW
    rw [List.filter_eq_self.2 (fun p hp => by
      unfold keepW at hp
      obtain ⟨k, _, rfl⟩ := List.mem_map.1 hp
      rfl), keepW_next]
    simp
  unfold readO
  rw [if_pos (show whyO (keepSt first ns (i + 1)) 1 = 0 from rfl), show (keepSt first ns (i + 1)).W = keepW ns (i + 1) from rfl, h]
theorem keepF_set (x y : Int) : (keepF x).set 1 (fillL y 128) = keepF y := by unfold keepF; rw [List.set_set]
theorem keep_crashS (first : Int) (ns : List Int) (keep : List Bool) (n : Nat) : ∀ j, j ≤ n → crashS keep (keepW ns n) (keepF first) j = (keepF (wantI first ns keep j), manyI keep j)
  | 0, _ => rfl
  | j + 1, hj => by
    have ih := keep_crashS first ns keep n j (by omega)
    unfold crashS wantI manyI
    by_cases h : keepB keep j = true
    · rw [if_pos h, if_pos h, if_pos h, keepW_at ns (show j < n by omega), ih]
      dsimp only
      rw [show (1 : Int).toNat = 1 from rfl, keepF_set]
    · rw [if_neg h, if_neg h, if_neg h, ih]
theorem keep_crash (first : Int) (ns : List Int) (keep : List Bool) (n : Nat) : (afterCrash (keepSt first ns n) keep, crashN (keepSt first ns n) keep) = (keepEnd (wantI first ns keep n), manyI keep n) := by
  unfold afterCrash crashN
  rw [show (keepSt first ns n).W = keepW ns n from rfl, show (keepSt first ns n).F = keepF first from rfl, keepW_len, keep_crashS first ns keep n n (Nat.le_refl _)]
  rfl
theorem keep_readE (x : Int) : readO (keepEnd x) 1 = (0, fillL x 128) := rfl
theorem keep_firmE (x : Int) : firmO (keepEnd x) 1 = (0, fillL x 128) := rfl
theorem manyI_le (keep : List Bool) : ∀ i, manyI keep i ≤ i
  | 0 => Nat.le_refl _
  | i + 1 => by
    unfold manyI
    have := manyI_le keep i
    split <;> omega
set_option maxHeartbeats 32000000 in
set_option maxRecDepth 20000 in
theorem dkeeps_law (x : Int) (A : Option Addr) (n c : Nat) (xs : List Int) (AK : Option Addr) (nk ck : Nat) (keep : List Bool) (w : World) (hn : n ≤ 9223372036854775807) (hA : intK.Lie w w.heap.size A n xs) (hnk : nk ≤ 9223372036854775807) (hK : boolK.Lie w w.heap.size AK nk keep) :
    Calls Try.prog 4 #[.int .i64 x, .slice A n c, .slice AK nk ck] w (SaysB w true) := by
  have HKL : Hid (keep.length = nk) := hK.len
  by_cases h12 : 12 < n
  · clear hA hK
    go_enter Try.func4, Try.ntmps4
    go_wp2_with fail
    refine (dawake_any _).mono ?_
    rintro e W1 ⟨rfl, hb⟩
    go_wp2_with fail
    go_ret
    exact ⟨rfl, hb⟩
  by_cases h20 : 20 < nk
  · clear hA hK
    go_enter Try.func4, Try.ntmps4
    go_wp2_with fail
    refine (dawake_any _).mono ?_
    rintro e W1 ⟨rfl, hb⟩
    go_wp2_with fail
    go_ret
    exact ⟨rfl, hb⟩
  have hn12 : n ≤ 12 := by omega
  have hnk20 : nk ≤ 20 := by omega
  have HA := Lib.hid hA
  have HK := Lib.hid hK
  have HKA : Hid (0 < nk → ∀ b ∈ blk AK, b < w.heap.size) := fun h b hb => by
    obtain ⟨ad, e1, e2, _⟩ := hK.each 0 h
    subst e1
    have : b = ad.block := by simpa [blk] using hb
    rw [this]; exact e2
  clear hA hK h12 h20
  obtain ⟨s0, HS0⟩ : ∃ s0, Hid (freshD 3 128 [] = s0) := ⟨_, rfl⟩
  obtain ⟨s1, HS1⟩ : ∃ s1, Hid ((⟨List.replicate 3 (List.replicate 128 0), [(1, fillL x 128)], [false, false, false], 128⟩ : RD) = s1) := ⟨_, rfl⟩
  obtain ⟨f, HFF⟩ : ∃ f, Hid (fillL x 128 = f) := ⟨_, rfl⟩
  have H1 := Lib.hid (keep_first x)
  rw [HS0.out, HS1.out, HFF.out] at H1
  have H2 := Lib.hid (keep_flush x xs)
  rw [HS1.out] at H2
  have hw0 : s0.W.length < 1000 := by rw [← HS0.out]; show 0 < 1000; decide
  have hw1 : s1.W.length ≤ 1000 := by rw [← HS1.out]; show 1 ≤ 1000; decide
  clear HS1
  go_enter Try.func4, Try.ntmps4
  go_wp2_with fail
  refine (dnew_any 3 128 none 0 0 [] _ (by omega) Kind.Lie.none_).mono ?_
  rw [if_pos (show mayD 3 128 = true from rfl), show freshD (3 : Int).toNat (128 : Int).toNat [] = s0 from HS0.out]
  rintro e W0 ⟨g, fp0, rfl, hc0, hb0⟩
  have C0 := Lib.hid hc0
  have S0 := Lib.hid hb0
  clear hc0 hb0
  go_wp2_with fail
  refine (fill_any x 128 _ (by omega)).mono ?_
  rintro e W2 ⟨A2, n2, c2, rfl, ho2, hb2⟩
  obtain rfl : 128 = n2 := by rw [← ho2.len, fillL_len]
  have F2 := Lib.hid (Rest.new ho2 C0.out.lt)
  have S2 := Lib.hid (below_chain S0.out hb2)
  have C2 := Lib.hid (C0.out.since hb2)
  clear hb2 ho2 S0 C0
  rw [HFF.out] at F2
  go_wp2_with fail
  refine (dwrite_any 1 _ _ _ _ C2.out hw0 F2.out.own.bytes F2.out.safe (by omega)).mono ?_
  rw [H1.out]
  rintro e W3 ⟨v3, fp3, rfl, he3, hc3, hs3⟩
  have S3 := Lib.hid (hs3.below S2.out C2.out.ge S2.out.size)
  have F3 := Lib.hid (F2.out.step hs3)
  have C3 := Lib.hid hc3
  obtain rfl := he3.nil
  clear he3
  clear hc3 hs3 S2 F2 C2
  go_wp2_with fail
  refine (dflush_any C3.out hw1).mono ?_
  rw [H2.out]
  rintro e W4 ⟨v4, fp4, rfl, he4, hc4, hs4⟩
  have S4 := Lib.hid (hs4.below S3.out C3.out.ge S3.out.size)
  have C4 := Lib.hid hc4
  obtain rfl := he4.nil
  clear he4
  clear hc4 hs4 S3 C3
  go_wp2_with fail
  refine (fill_any x 128 _ (by omega)).mono ?_
  rintro e W5 ⟨A5, n5, c5, rfl, ho5, hb5⟩
  obtain rfl : 128 = n5 := by rw [← ho5.len, fillL_len]
  have G5 := Lib.hid (Rest.new ho5 C4.out.lt)
  have S5 := Lib.hid (below_chain S4.out hb5)
  have C5 := Lib.hid (C4.out.since hb5)
  clear hb5 ho5 S4 C4
  go_wp2_with fail
  go_loopw [8, 9, 10] (fun t8 t9 t10 wr => ∃ (i : Nat) (fp : Nat → Prop) (AG : Option Addr) (cG bG : Nat), t8 = .slice AG 128 cG ∧ t9 = .int .i64 (manyI keep i : Int) ∧ t10 = .int .i64 i ∧ i ≤ n ∧ Hid (DiskAt wr w.heap.size fp g (keepSt x xs i)) ∧ Hid (Rest fp wr bG AG 128 cG (fillL (wantI x xs keep i) 128)) ∧ Hid (Below w.heap.size w wr)) (fun _ _ t10 _ => n - (intOf t10).toNat)
  case atStart => exact ⟨0, fp4, A5, c5, _, rfl, rfl, rfl, Nat.zero_le _, C5, G5, S5⟩
  clear C5 G5 S5 H1 H2 hw0 hw1 HS0
  case round =>
    obtain ⟨Wa, rfl⟩ : ∃ Wa, Wa = wr := ⟨_, rfl⟩
    obtain ⟨i, fp, AG, cG, bG, rfl, rfl, rfl, hi, HC, HR, HB⟩ := hrel
    have i0 : (0 : Int) ≤ (i : Int) := by omega
    have hmi := manyI_le keep i
    obtain ⟨mi, HMI⟩ : ∃ mi : Nat, manyI keep i = mi := ⟨_, rfl⟩
    rw [HMI] at hmi ⊢
    have HMI2 := Lib.hid HMI
    clear HMI
    by_cases hlt : i < n
    · skip
      have i1 : (i : Int) < (n : Int) := by omega
      obtain ⟨ad, rfl, hblk, hc⟩ := int_at (HA.out.since HB.out) hlt
      obtain ⟨y, HY⟩ : ∃ y, Hid (xs.getD i 0 = y) := ⟨_, rfl⟩
      rw [HY.out] at hc
      obtain ⟨fy, HFY⟩ : ∃ fy, Hid (fillL y 128 = fy) := ⟨_, rfl⟩
      have HFL : Hid (fy.length = 128) := by rw [← HFY.out]; exact fillL_len _ _
      have HW := Lib.hid (keep_write x xs i)
      rw [HY.out, HFY.out] at HW
      have HRD := Lib.hid (keep_read x xs i)
      rw [HY.out, HFY.out] at HRD
      have hwl : (keepSt x xs i).W.length < 1000 := by show (keepW xs i).length < 1000; rw [keepW_len]; omega
      obtain ⟨si, HSI⟩ : ∃ si, Hid (keepSt x xs i = si) := ⟨_, rfl⟩
      obtain ⟨sj, HSJ⟩ : ∃ sj, Hid (keepSt x xs (i + 1) = sj) := ⟨_, rfl⟩
      rw [HSI.out] at HC HW hwl
      rw [HSJ.out] at HW HRD
      have HKK := Lib.hid (HK.out.since HB.out)
      have hbw : ad.block < w.heap.size := by obtain ⟨ad2, q1, q2, _⟩ := HA.out.each i hlt; rw [Option.some.inj q1]; exact q2
      have kc0 := hc
      have kb0 := hblk
      clear hc hblk
      go_wp2_with fail
      refine (fill_any y 128 _ (by omega)).mono ?_
      rintro e W21 ⟨A21, n21, c21, rfl, ho21, hb21⟩
      obtain rfl : 128 = n21 := by rw [← ho21.len, fillL_len]
      have F21 := Lib.hid (Rest.new ho21 HC.out.lt)
      have kc21 := ((hb21).cell (p := ad.add i) (by rw [addr_block]; exact kb0)).trans kc0
      have kb21 := Nat.lt_of_lt_of_le kb0 (hb21).size
      have S21 := Lib.hid (below_chain HB.out hb21)
      have C21 := Lib.hid (HC.out.since hb21)
      have G21 := Lib.hid (HR.out.since hb21)
      clear kc0 kb0
      clear hb21 ho21 HB HC HR
      rw [HFY.out] at F21
      go_wp2_with fail
      refine (dwrite_any 1 _ _ _ _ C21.out hwl F21.out.own.bytes F21.out.safe (by omega)).mono ?_
      rw [HW.out]
      rintro e W22 ⟨v22, fp22, rfl, he22, hc22, hs22⟩
      have kc22 := hs22.cell (p := ad.add i) (fun hf => by have h1 := C21.out.ge _ hf; rw [addr_block] at h1; have h2 := hbw; omega) kc21
      have kb22 := Nat.lt_of_lt_of_le kb21 hs22.size
      have S22 := Lib.hid (hs22.below S21.out C21.out.ge S21.out.size)
      have G22 := Lib.hid (G21.out.step hs22)
      have F22 := Lib.hid (F21.out.step hs22)
      have C22 := Lib.hid hc22
      clear kc21 kb21
      obtain rfl := he22.nil
      clear he22
      clear hc22 hs22 S21 G21 F21 C21
      go_wp2_with fail
      refine (dread_any 1 C22.out).mono ?_
      rw [HRD.out]
      rintro e W23 ⟨v23, A23, n23, c23, rfl, he23, ho23, hb23⟩
      obtain rfl : 128 = n23 := by rw [← ho23.len]; exact HFL.out.symm
      have X23 := Lib.hid (Rest.new ho23 C22.out.lt)
      have kc23 := ((hb23).cell (p := ad.add i) (by rw [addr_block]; exact kb22)).trans kc22
      have kb23 := Nat.lt_of_lt_of_le kb22 (hb23).size
      have S23 := Lib.hid (below_chain S22.out hb23)
      have C23 := Lib.hid (C22.out.since hb23)
      have G23 := Lib.hid (G22.out.since hb23)
      clear kc22 kb22
      obtain rfl := he23.nil
      clear he23
      clear ho23 hb23 S22 C22 G22
      go_wp2_with fail
      refine (fill_any y 128 _ (by omega)).mono ?_
      rintro e W24 ⟨A24, n24, c24, rfl, ho24, hb24⟩
      obtain rfl : 128 = n24 := by rw [← ho24.len, fillL_len]
      have F24 := Lib.hid (Rest.new ho24 C23.out.lt)
      have kc24 := ((hb24).cell (p := ad.add i) (by rw [addr_block]; exact kb23)).trans kc23
      have kb24 := Nat.lt_of_lt_of_le kb23 (hb24).size
      have S24 := Lib.hid (below_chain S23.out hb24)
      have C24 := Lib.hid (C23.out.since hb24)
      have G24 := Lib.hid (G23.out.since hb24)
      have X24 := Lib.hid (X23.out.since hb24)
      clear kc23 kb23
      clear hb24 ho24 S23 C23 G23 X23
      rw [HFY.out] at F24
      go_wp2_with fail
      refine (same_since _ _ 128 _ _ fy _ (by omega) X24.out.own.bytes F24.out.own.bytes).mono ?_
      rintro e W25 ⟨rfl, hb25⟩
      have kc25 := ((hb25).cell (p := ad.add i) (by rw [addr_block]; exact kb24)).trans kc24
      have kb25 := Nat.lt_of_lt_of_le kb24 (hb25).size
      have S25 := Lib.hid (below_chain S24.out hb25)
      have C25 := Lib.hid (C24.out.since hb25)
      have G25 := Lib.hid (G24.out.since hb25)
      clear kc24 kb24
      clear hb25 X24 F24 S24 C24 G24
      have HWN : Hid (keepB keep i = false → wantI x xs keep (i + 1) = wantI x xs keep i ∧ manyI keep (i + 1) = mi) := fun h => by rw [wantI, manyI, h, if_neg (by decide), if_neg (by decide), HMI2.out]; exact ⟨rfl, rfl⟩
      have HWY : Hid (keepB keep i = true → wantI x xs keep (i + 1) = y ∧ manyI keep (i + 1) = mi + 1) := fun h => by rw [wantI, manyI, h, if_pos rfl, if_pos rfl, HMI2.out, HY.out]; exact ⟨rfl, rfl⟩
      by_cases hk0 : 0 < nk
      · skip
        obtain ⟨r, hr, HRM⟩ : ∃ r : Nat, r < nk ∧ Hid ((i : Int) % (nk : Int) = (r : Int)) := ⟨i % nk, Nat.mod_lt _ hk0, (Int.natCast_emod i nk).symm⟩
        obtain ⟨adK, x1, x2, x3⟩ := (HK.out.since S25.out).each r hr
        have x4 := boolK_at (b := keep.getD r false) x3
        rw [show r * boolK.k = r from Nat.mul_one r] at x4
        subst x1
        have HKB2 : Hid (keepB keep i = keep.getD r false) := by
          show _ = _
          unfold keepB
          have e : r = i % nk := by have := HRM.out; omega
          rw [HKL.out, ← e, decide_eq_true hk0, Bool.true_and]
        have r0 : (0 : Int) ≤ (r : Int) := by omega
        have r1 : (r : Int) < (nk : Int) := by omega
        have nk0 : (0 : Int) < (nk : Int) := by omega
        have nkz : ((nk : Int) == 0) = false := by simp; omega
        clear x3
        rcases hb : keep.getD r false with _ | _
        · rw [hb] at x4 HKB2
          have HKB : Hid (keepB keep i = false) := HKB2.out
          clear hb HKB2
          go_wp2_with (simp only [HRM.out])
          obtain ⟨q1, q2⟩ := HWN.out HKB.out
          have HR9 : Hid (Rest fp22 W25 bG AG 128 cG (fillL (wantI x xs keep (i + 1)) 128)) := by rw [q1]; exact G25.out
          have HC9 : Hid (DiskAt W25 w.heap.size fp22 g (keepSt x xs (i + 1))) := by rw [HSJ.out]; exact C25.out
          have HM9 : Hid ((manyI keep (i + 1) : Int) = (mi : Int)) := by show _ = _; rw [q2]
          clear q1 q2
          go_roundw
          case rel => exact ⟨i + 1, fp22, AG, cG, bG, rfl, by rw [HM9.out], by go_num, by omega, HC9, HR9, S25⟩
          case measure => simp [intOf]; omega
        · rw [hb] at x4 HKB2
          have HKB : Hid (keepB keep i = true) := HKB2.out
          clear hb HKB2
          go_wp2_with (simp only [HRM.out])
          refine (fill_any y 128 _ (by omega)).mono ?_
          rintro e W26 ⟨A26, n26, c26, rfl, ho26, hb26⟩
          obtain rfl : 128 = n26 := by rw [← ho26.len, fillL_len]
          have F26 := Lib.hid (Rest.new ho26 C25.out.lt)
          have kc26 := ((hb26).cell (p := ad.add i) (by rw [addr_block]; exact kb25)).trans kc25
          have kb26 := Nat.lt_of_lt_of_le kb25 (hb26).size
          have S26 := Lib.hid (below_chain S25.out hb26)
          have C26 := Lib.hid (C25.out.since hb26)
          have G26 := Lib.hid (G25.out.since hb26)
          clear kc25 kb25
          clear hb26 ho26 S25 C25 G25
          obtain ⟨q1, q2⟩ := HWY.out HKB.out
          have HR9 : Hid (Rest fp22 W26 W25.heap.size A26 128 c26 (fillL (wantI x xs keep (i + 1)) 128)) := by rw [q1]; exact F26.out
          have HC9 : Hid (DiskAt W26 w.heap.size fp22 g (keepSt x xs (i + 1))) := by rw [HSJ.out]; exact C26.out
          have HM9 : Hid ((manyI keep (i + 1) : Int) = ((mi + 1 : Nat) : Int)) := by show _ = _; rw [q2]
          clear q1 q2
          go_wp2_with fail
          go_roundw
          case rel => exact ⟨i + 1, fp22, A26, c26, W25.heap.size, rfl, by rw [HM9.out]; go_num, by go_num, by omega, HC9, HR9, S26⟩
          case measure => simp [intOf]; omega
      · skip
        have HKB : Hid (keepB keep i = false) := by
          show _ = _
          unfold keepB
          rw [HKL.out, decide_eq_false hk0]; rfl
        have hnk0 : ¬ (0 : Int) < (nk : Int) := by omega
        obtain ⟨q1, q2⟩ := HWN.out HKB.out
        have HR9 : Hid (Rest fp22 W25 bG AG 128 cG (fillL (wantI x xs keep (i + 1)) 128)) := by rw [q1]; exact G25.out
        have HC9 : Hid (DiskAt W25 w.heap.size fp22 g (keepSt x xs (i + 1))) := by rw [HSJ.out]; exact C25.out
        have HM9 : Hid ((manyI keep (i + 1) : Int) = (mi : Int)) := by show _ = _; rw [q2]
        clear q1 q2
        go_wp2_with fail
        go_roundw
        case rel => exact ⟨i + 1, fp22, AG, cG, bG, rfl, by rw [HM9.out], by go_num, by omega, HC9, HR9, S25⟩
        case measure => simp [intOf]; omega
    · skip
      obtain rfl : i = n := by omega
      have HCR := Lib.hid (keep_crash x xs keep i)
      rw [HMI2.out] at HCR
      obtain ⟨v, HV⟩ : ∃ v, Hid (wantI x xs keep i = v) := ⟨_, rfl⟩
      rw [HV.out] at HCR HR
      obtain ⟨fv, HFV⟩ : ∃ fv, Hid (fillL v 128 = fv) := ⟨_, rfl⟩
      have HFL : Hid (fv.length = 128) := by rw [← HFV.out]; exact fillL_len _ _
      have HRE := Lib.hid (keep_readE v)
      have HFE := Lib.hid (keep_firmE v)
      rw [HFV.out] at HRE HFE HR
      have HWE : Hid ((keepEnd v).W.map (·.1) = []) := rfl
      have hwl : (keepSt x xs i).W.length ≤ 1000 := by show (keepW xs i).length ≤ 1000; rw [keepW_len]; omega
      obtain ⟨si, HSI⟩ : ∃ si, Hid (keepSt x xs i = si) := ⟨_, rfl⟩
      obtain ⟨se, HSE⟩ : ∃ se, Hid (keepEnd v = se) := ⟨_, rfl⟩
      rw [HSI.out] at HC HCR hwl
      rw [HSE.out] at HCR HRE HFE HWE
      go_wp2_with fail
      refine (dcrash_any AK nk ck keep HC.out hwl hnk (HK.out.since HB.out) (fun h0 b hb hf => by have h1 := HKA.out h0 b hb; have h2 := HC.out.ge b hf; omega)).mono ?_
      rw [HCR.out]
      rintro e W61 ⟨fp61, rfl, hc61, hs61⟩
      have S61 := Lib.hid (hs61.below HB.out HC.out.ge HB.out.size)
      have G61 := Lib.hid (HR.out.step hs61)
      have C61 := Lib.hid hc61
      clear hc61 hs61 HB HR HC
      go_wp2_with fail
      refine (dread_any 1 C61.out).mono ?_
      rw [HRE.out]
      rintro e W62 ⟨v62, A62, n62, c62, rfl, he62, ho62, hb62⟩
      obtain rfl : 128 = n62 := by rw [← ho62.len]; exact HFL.out.symm
      have X62 := Lib.hid (Rest.new ho62 C61.out.lt)
      have S62 := Lib.hid (below_chain S61.out hb62)
      have C62 := Lib.hid (C61.out.since hb62)
      have G62 := Lib.hid (G61.out.since hb62)
      obtain rfl := he62.nil
      clear he62
      clear ho62 hb62 S61 C61 G61
      go_wp2_with fail
      refine (dfirm_any 1 C62.out).mono ?_
      rw [HFE.out]
      rintro e W63 ⟨v63, A63, n63, c63, rfl, he63, ho63, hb63⟩
      obtain rfl : 128 = n63 := by rw [← ho63.len]; exact HFL.out.symm
      have Y63 := Lib.hid (Rest.new ho63 C62.out.lt)
      have S63 := Lib.hid (below_chain S62.out hb63)
      have C63 := Lib.hid (C62.out.since hb63)
      have G63 := Lib.hid (G62.out.since hb63)
      have X63 := Lib.hid (X62.out.since hb63)
      obtain rfl := he63.nil
      clear he63
      clear ho63 hb63 S62 C62 G62 X62
      go_wp2_with fail
      refine (dread_nil 0).mono ?_
      rintro e W64 ⟨v64, rfl, he64, hb64⟩
      have S64 := Lib.hid (below_chain S63.out hb64)
      have C64 := Lib.hid (C63.out.since hb64)
      have G64 := Lib.hid (G63.out.since hb64)
      have X64 := Lib.hid (X63.out.since hb64)
      have Y64 := Lib.hid (Y63.out.since hb64)
      have E64 := Lib.hid he64
      clear he64 hb64 S63 C63 G63 X63 Y63
      go_wp2_with fail
      refine (same_since _ _ 128 _ _ fv _ (by omega) X64.out.own.bytes G64.out.own.bytes).mono ?_
      rintro e W65 ⟨rfl, hb65⟩
      have S65 := Lib.hid (below_chain S64.out hb65)
      have C65 := Lib.hid (C64.out.since hb65)
      have G65 := Lib.hid (G64.out.since hb65)
      have Y65 := Lib.hid (Y64.out.since hb65)
      have E65 := Lib.hid (E64.out.step (Moves.of_below hb65))
      clear hb65 X64 S64 C64 G64 Y64 E64
      go_wp2_with fail
      refine (same_since _ _ 128 _ _ fv _ (by omega) Y65.out.own.bytes G65.out.own.bytes).mono ?_
      rintro e W66 ⟨rfl, hb66⟩
      have S66 := Lib.hid (below_chain S65.out hb66)
      have C66 := Lib.hid (C65.out.since hb66)
      have E66 := Lib.hid (E65.out.step (Moves.of_below hb66))
      clear hb66 Y65 G65 S65 C65 E65
      go_wp2_with fail
      refine (dwaiting_any C66.out).mono ?_
      rw [HWE.out]
      rintro e W67 ⟨A67, n67, c67, rfl, hi67, hb67⟩
      obtain rfl : 0 = n67 := hi67.out.len
      have S67 := Lib.hid (below_chain S66.out hb67.out)
      have C67 := Lib.hid (C66.out.since hb67.out)
      have E67 := Lib.hid (E66.out.step (Moves.of_below hb67.out))
      clear hb67 hi67 S66 C66 E66
      go_wp2_with fail
      refine (err_num E67.out).mono ?_
      rintro e W68 ⟨rfl, hw68⟩
      subst hw68
      clear E67
      go_wp2_with fail
      refine (dflush_nil).mono ?_
      rintro e W69 ⟨v69, rfl, he69, hb69⟩
      have S69 := Lib.hid (below_chain S67.out hb69)
      have C69 := Lib.hid (C67.out.since hb69)
      have E69 := Lib.hid he69
      clear he69 hb69 S67 C67
      go_wp2_with fail
      refine (err_num E69.out).mono ?_
      rintro e W70 ⟨rfl, hw70⟩
      subst hw70
      clear E69
      go_wp2_with fail
      refine (dcrash_nil).mono ?_
      rintro e W71 ⟨rfl, hb71⟩
      have S71 := Lib.hid (below_chain S69.out hb71.out)
      have C71 := Lib.hid (C69.out.since hb71.out)
      clear hb71 S69 C69
      go_wp2_with fail
      refine (dawake_any _).mono ?_
      rintro e W72 ⟨rfl, hb72⟩
      have S72 := Lib.hid (below_chain S71.out hb72.out)
      go_wp2_with fail
      go_ret
      exact ⟨rfl, S72⟩
end Go.Proofs.Ytfhfjfgajbgdcaa
