/- DiskScript: true, whatever its arguments are. Conditions: the acts' cells, the broken ones' cells. -/
import Derived.Test.YtfhfjfgajbgdcaaDoneCrash
set_option linter.unusedVariables false
set_option linter.unusedSimpArgs false
namespace Go.Proofs.Ytfhfjfgajbgdcaa
open Go.RowKit

theorem afterCrash_len (s : RD) (keep : List Bool) : (afterCrash s keep).W.length ≤ s.W.length + 1 ∧ (afterCrash s keep).F.length = s.F.length ∧ (afterCrash s keep).size = s.size := ⟨Nat.zero_le _, crashS_len _ _ _ _, rfl⟩
theorem afterWrite_len (s : RD) (x : Int) (bs : List Nat) : (afterWrite s x bs).W.length ≤ s.W.length + 1 ∧ (afterWrite s x bs).F.length = s.F.length ∧ (afterWrite s x bs).size = s.size := by
  unfold afterWrite
  split
  · exact ⟨by simp, rfl, rfl⟩
  · exact ⟨Nat.le_succ _, rfl, rfl⟩
theorem done_any {w : World} {base gD gK : Nat} {fD fK : Nat → Prop} {s : RD} (d at_ nn : Int) (sh : Bool) (ka : Option Addr) (kn kc : Nat) (keep : List Bool) (hB : Both w base fD fK gD gK s) (hm : s.W.length < 1000) (hz : 1 ≤ s.size) (hkn : kn ≤ 9223372036854775807) (hK : boolK.Lie w base ka kn keep) :
    Calls Try.prog 10 #[.pointer (some ⟨gD, 0, none⟩), .pointer (some ⟨gK, 0, none⟩), .agg #[.int .i64 d, .int .i64 at_, .int .i64 nn, .bool sh, .slice ka kn kc]] w fun e w' => ∃ s', (s'.W.length ≤ s.W.length + 1 ∧ s'.F.length = s.F.length ∧ s'.size = s.size) ∧ Done w base fD fK gD gK s' e w' := by
  by_cases h0 : d = 0
  · subst h0
    exact (done_read at_ nn sh ka kn kc hB).mono fun e w' h => ⟨s, ⟨Nat.le_succ _, rfl, rfl⟩, h⟩
  by_cases h1 : d = 1
  · subst h1
    exact (done_write at_ nn sh ka kn kc hB hm hz).mono fun e w' h => ⟨_, afterWrite_len _ _ _, h⟩
  by_cases h2 : d = 2
  · subst h2
    exact (done_flush at_ nn sh ka kn kc hB (by omega)).mono fun e w' h => ⟨_, afterCrash_len _ _, h⟩
  by_cases h3 : d = 3
  · subst h3
    exact (done_crash at_ nn sh ka kn kc keep hB (by omega) hkn hK).mono fun e w' h => ⟨_, afterCrash_len _ _, h⟩
  exact (done_none d at_ nn sh ka kn kc hB h0 h1 h2 h3).mono fun e w' h => ⟨s, ⟨Nat.le_succ _, rfl, rfl⟩, h⟩
set_option maxHeartbeats 16000000 in
set_option maxRecDepth 20000 in
theorem dscript_law (x y : Int) (AX : Option Addr) (nx cx : Nat) (xs : List Int) (AA : Option Addr) (na ca : Nat) (ms : List A9) (w : World) (hnx : nx ≤ 9223372036854775807) (hX : intK.Lie w w.heap.size AX nx xs) (hna : na ≤ 9223372036854775807) (hA : act9K.Lie w w.heap.size AA na ms) (hO : ∀ k, A9Own w (ms.getD k A9.zero)) :
    Calls Try.prog 3 #[.int .i64 x, .int .i64 y, .slice AX nx cx, .slice AA na ca] w (SaysB w true) := by
  by_cases h60 : 60 < na
  · clear hX hA hO
    go_enter Try.func3, Try.ntmps3
    go_wp2_with fail
    refine (dawake_any _).mono ?_
    rintro e W1 ⟨rfl, hb⟩
    go_wp2_with fail
    go_ret
    exact ⟨rfl, hb⟩
  by_cases h20 : 20 < nx
  · clear hX hA hO
    go_enter Try.func3, Try.ntmps3
    go_wp2_with fail
    refine (dawake_any _).mono ?_
    rintro e W1 ⟨rfl, hb⟩
    go_wp2_with fail
    go_ret
    exact ⟨rfl, hb⟩
  by_cases hs20 : 20 < x
  · clear hX hA hO
    go_enter Try.func3, Try.ntmps3
    go_wp2_with fail
    refine (dawake_any _).mono ?_
    rintro e W1 ⟨rfl, hb⟩
    go_wp2_with fail
    go_ret
    exact ⟨rfl, hb⟩
  have HX := Lib.hid hX
  have HA := Lib.hid hA
  have HO := Lib.hid hO
  have hna' : na ≤ 60 := by omega
  have hnx' : nx ≤ 20 := by omega
  clear hX hA hO h60 h20
  by_cases hmay : mayD x y = true
  · have hm2 := of_decide_eq_true hmay
    obtain ⟨n, rfl⟩ : ∃ n : Nat, x = (n : Int) := ⟨x.toNat, by omega⟩
    obtain ⟨z, rfl⟩ : ∃ z : Nat, y = (z : Int) := ⟨y.toNat, by omega⟩
    have C1 := Lib.hid (dnew_any (n : Int) (z : Int) AX nx cx xs w hnx HX.out)
    rw [if_pos hmay, Int.toNat_natCast, Int.toNat_natCast] at C1
    obtain ⟨s0, HS0⟩ : ∃ s0, Hid (freshD n z xs = s0) := ⟨_, rfl⟩
    have HF0 : Hid (s0.F.length = n ∧ s0.size = z ∧ s0.W.length = 0) := by rw [← HS0.out]; exact ⟨List.length_replicate .., rfl, rfl⟩
    rw [HS0.out] at C1
    have hz : 1 ≤ z := by omega
    have hn20 : (n : Int) ≤ 20 := by omega
    go_enter Try.func3, Try.ntmps3
    go_wp2_with fail
    refine C1.out.mono ?_
    rintro e W1 ⟨gD, fD, rfl, hd1, hb1⟩
    have D1 := Lib.hid hd1
    have S1 := Lib.hid hb1
    clear hd1 hb1
    go_wp2_with fail
    refine (refnew_any (n : Int) (z : Int) AX nx cx xs W1 hnx (HX.out.since S1.out)).mono ?_
    rw [if_pos hmay, Int.toNat_natCast, Int.toNat_natCast, HS0.out]
    rintro e W2 ⟨gK, fK, rfl, hr2, hb2⟩
    have B2 : Hid (Both W2 w.heap.size fD fK gD gK s0) := ⟨D1.out.since hb2, hr2.elder S1.out.size, fun b h1 h2 => by have h3 := D1.out.lt b h1; have h4 := hr2.ge b h2; omega⟩
    have S2 := Lib.hid (below_chain S1.out hb2)
    clear hr2 hb2 D1 S1 hm2 hmay HX C1
    go_wp2_with fail
    go_loopw [11] (fun t11 wr => ∃ (i : Nat) (s : RD) (fD fK : Nat → Prop), t11 = .int .i64 i ∧ i ≤ na ∧ Hid (Both wr w.heap.size fD fK gD gK s) ∧ Hid (s.F.length = n ∧ s.size = z ∧ s.W.length ≤ i) ∧ Hid (Below w.heap.size w wr)) (fun t11 _ => na - (intOf t11).toNat)
    case atStart => exact ⟨0, s0, fD, fK, rfl, Nat.zero_le _, B2, ⟨HF0.out.1, HF0.out.2.1, by rw [HF0.out.2.2]; exact Nat.zero_le _⟩, S2⟩
    clear B2 S2 HF0
    case round =>
      obtain ⟨Wa, rfl⟩ : ∃ Wa, Wa = wr := ⟨_, rfl⟩
      obtain ⟨i, s, fD, fK, rfl, hi, HB, HF, HS⟩ := hrel
      have i0 : (0 : Int) ≤ (i : Int) := by omega
      by_cases hlt : i < na
      · have i1 : (i : Int) < (na : Int) := by omega
        obtain ⟨ad, e1, e2, e3⟩ := HA.out.each i hlt
        subst e1
        obtain ⟨m, HMM⟩ : ∃ m, Hid (ms.getD i A9.zero = m) := ⟨_, rfl⟩
        have hown := HO.out i
        rw [HMM.out] at hown
        have HCEL : Hid (∀ W, Below w.heap.size w W → A9At W (ad.add (i * 5)) m) := fun W hW => by
          obtain ⟨ad', f1, f2, f3⟩ := act9_at (HA.out.below hW) hlt
          obtain rfl := Option.some.inj f1
          rw [HMM.out] at f3
          exact f3
        clear e3 e2
        obtain ⟨d, at_, nn, sh, ka, kn, kc⟩ := m
        obtain ⟨hk1, hk2, keep, hk3⟩ := hown
        dsimp only at hk1 hk2 hk3
        have HKL : Hid (boolK.Lie Wa w.heap.size ka kn keep) := hk3.below HS.out
        obtain ⟨c0, c1, c2, c3, c4⟩ := HCEL.out Wa HS.out
        dsimp only at c0 c1 c2 c3 c4
        clear hk3
        by_cases hk20 : 20 < kn
        · go_wp2_with fail
          refine (dawake_any _).mono ?_
          rintro e W1 ⟨rfl, hb⟩
          go_wp2_with fail
          go_ret
          exact ⟨rfl, below_chain HS.out hb.out⟩
        · have CD := Lib.hid (done_any d at_ nn sh ka kn kc keep HB.out (by have := HF.out.2.2; omega) (by rw [HF.out.2.1]; exact hz) hk2 HKL.out)
          clear HKL
          go_wp2_with fail
          refine CD.out.mono ?_
          rintro e W1 ⟨s1, hg1, rfl, fD1, fK1, HB1, HM1⟩
          have S1 := Lib.hid (HM1.out.below HS.out HB.out.ge HS.out.size)
          have HF1 : Hid (s1.F.length = n ∧ s1.size = z ∧ s1.W.length ≤ i + 1) := ⟨hg1.2.1.trans HF.out.1, hg1.2.2.trans HF.out.2.1, by have h1 := hg1.1; have h2 := HF.out.2.2; omega⟩
          clear CD c0 c1 c2 c3 c4 hg1 HM1 HB HF HS
          go_wp2_with fail
          refine (dwaiting_any HB1.out.d).mono ?_
          rintro e W2 ⟨A2, n2, q2, rfl, HI2, HBL2⟩
          have B2 := Lib.hid (HB1.out.since HBL2.out)
          have S2 := Lib.hid (below_chain S1.out HBL2.out)
          have hn2 : n2 ≤ 61 := by rw [← HI2.out.len, List.length_map]; have := HF1.out.2.2; omega
          obtain ⟨ws, HWS⟩ : ∃ ws, Hid (List.map (fun x => x.1) s1.W = ws) := ⟨_, rfl⟩
          rw [HWS.out] at HI2
          have HLA : Hid (W1.heap.size ≤ W2.heap.size) := HBL2.out.size
          have HLW : Hid (∀ b, Or2 fD1 fK1 b → b < W1.heap.size) := HB1.out.lt
          have HW1 : Hid (w.heap.size ≤ W1.heap.size) := S1.out.size
          obtain ⟨c0, c1, c2, c3, c4⟩ := HCEL.out W2 S2.out
          dsimp only at c0 c1 c2 c3 c4
          clear HBL2 HB1 S1
          go_wp2_with fail
          refine (dfirm_any at_ B2.out.d).mono ?_
          obtain ⟨q, bs, HQ⟩ : ∃ q bs, Hid (firmO s1 at_ = (q, bs)) := ⟨_, _, rfl⟩
          have HLEN : Hid (bs.length ≤ 256) := by have h := B2.out.r.firm_len at_; rw [HQ.out] at h; exact h
          rw [HQ.out]
          rintro e W3 ⟨v3, A3, n3, q3, rfl, he3, ho3, hb3⟩
          have B3 := Lib.hid (B2.out.since hb3)
          have S3 := Lib.hid (below_chain S2.out hb3)
          have E3 := Lib.hid he3.at_
          have O3 := Lib.hid ho3
          have I3 := Lib.hid (HI2.out.since hb3)
          have HLB : Hid (W1.heap.size ≤ W3.heap.size) := Nat.le_trans HLA.out hb3.size
          clear c0 c1 c2 c3 c4 he3 ho3 hb3 HI2 B2 S2 HLA
          obtain ⟨c0, c1, c2, c3, c4⟩ := HCEL.out W3 S3.out
          dsimp only at c0 c1 c2 c3 c4
          go_wp2_with fail
          refine (rfirm_any at_ B3.out.r).mono ?_
          rw [HQ.out]
          rintro e W4 ⟨A4, n4, q4, rfl, ho4, hb4⟩
          have B4 := Lib.hid (B3.out.since hb4.out)
          have S4 := Lib.hid (below_chain S3.out hb4.out)
          have E4 := Lib.hid (E3.out.step (Moves.of_below (fp := fD1) hb4.out))
          have O4 := Lib.hid (O3.out.since hb4.out)
          have I4 := Lib.hid (I3.out.since hb4.out)
          have HLC : Hid (W1.heap.size ≤ W4.heap.size) := Nat.le_trans HLB.out hb4.out.size
          obtain rfl : n3 = n4 := by rw [← O3.out.len, ← ho4.out.len]
          have hn3 : n3 ≤ 256 := by rw [← O3.out.len]; exact HLEN.out
          clear c0 c1 c2 c3 c4 hb4 B3 S3 E3 O3 I3 HLB
          go_wp2_with fail
          refine (rwaiting_any B4.out.r).mono ?_
          rw [HWS.out]
          rintro e W5 ⟨A5, n5, q5, rfl, HI5, HBL5⟩
          have B5 := Lib.hid (B4.out.since HBL5.out)
          have S5 := Lib.hid (below_chain S4.out HBL5.out)
          have E5 := Lib.hid (E4.out.step (Moves.of_below (fp := fD1) HBL5.out))
          have O5 := Lib.hid (O4.out.since HBL5.out)
          have P5 := Lib.hid (ho4.out.since HBL5.out)
          have I5 := Lib.hid (I4.out.since HBL5.out)
          have HLD : Hid (W1.heap.size ≤ W5.heap.size) := Nat.le_trans HLC.out HBL5.out.size
          obtain rfl : n2 = n5 := by rw [← I5.out.len, ← HI5.out.len]
          clear HBL5 B4 S4 E4 O4 ho4 I4 HLC
          go_wp2_with fail
          refine (sameints_yes A2 A5 n2 q2 q5 ws W5 (by omega) I5.out.lie HI5.out.lie).mono ?_
          rintro e W6 ⟨rfl, hb6⟩
          have B6 := Lib.hid (B5.out.since hb6)
          have S6 := Lib.hid (below_chain S5.out hb6)
          have E6 := Lib.hid (E5.out.step (Moves.of_below (fp := fD1) hb6))
          have O6 := Lib.hid (O5.out.since hb6)
          have P6 := Lib.hid (P5.out.since hb6)
          have I6 := Lib.hid (I5.out.since hb6)
          have HLE : Hid (W1.heap.size ≤ W6.heap.size) := Nat.le_trans HLD.out hb6.size
          clear hb6 B5 S5 E5 O5 P5 I5 HI5 HLD
          go_wp2_with fail
          refine (same_since A3 A4 n3 q3 q4 bs W6 (by omega) O6.out.bytes P6.out.bytes).mono ?_
          rintro e W7 ⟨rfl, hb7⟩
          have B7 := Lib.hid (B6.out.since hb7)
          have S7 := Lib.hid (below_chain S6.out hb7)
          have E7 := Lib.hid (E6.out.step (Moves.of_below (fp := fD1) hb7))
          have I7 := Lib.hid (I6.out.since hb7)
          have HLF : Hid (W1.heap.size ≤ W7.heap.size) := Nat.le_trans HLE.out hb7.size
          have hqq : (q != q) = false := by simp
          have hnn : ((n : Int) != (n : Int)) = false := by simp
          clear hb7 B6 S6 E6 O6 P6 I6 HLE
          go_wp2_with fail
          refine (err_num E7.out).mono ?_
          rintro e w' ⟨rfl, rfl⟩
          go_wp2_with fail
          refine (dsectors_any B7.out.d).mono ?_
          rw [HF1.out.1]
          rintro e W8 ⟨rfl, hb8⟩
          have B8 := Lib.hid (B7.out.since hb8.out)
          have S8 := Lib.hid (below_chain S7.out hb8.out)
          have I8 := Lib.hid (I7.out.since hb8.out)
          have HLG : Hid (W1.heap.size ≤ W8.heap.size) := Nat.le_trans HLF.out hb8.out.size
          clear hb8 B7 S7 E7 I7 HLF
          go_wp2_with fail
          refine (overints_any A2 n2 q2 W1.heap.size ws W8 (by omega) HLG.out I8.out).mono ?_
          rintro e W9 ⟨rfl, hg9⟩
          have hnew : ∀ b ∈ blk A2, W1.heap.size ≤ b := Row.blk_ge I8.out
          have T9 : Turn (fun b => b ∈ blk A2) W8 W9 := Turn.of_grown hg9 fun b hb => blk_own.1 hb
          have B9 : Hid (Both W9 w.heap.size fD1 fK1 gD gK s1) := ⟨B8.out.d.keep T9 (fun b h1 h2 => by have h3 := hnew b h1; have h4 := HLW.out b (Or.inl h2); omega), B8.out.r.keep T9 (fun b h1 h2 => by have h3 := hnew b h1; have h4 := HLW.out b (Or.inr h2); omega), B8.out.two⟩
          have S9 := Lib.hid (T9.chain S8.out (fun b hb => Nat.le_trans HW1.out (hnew b hb)) S8.out.size)
          clear hnew T9 hg9 B8 S8 I8
          go_wp2_with fail
          go_roundw
          case rel => exact ⟨i + 1, s1, fD1, fK1, by go_num, by omega, B9, HF1, S9⟩
          case measure => simp [intOf]; omega
      · go_wp2_with fail
        refine (dawake_any _).mono ?_
        rintro e W1 ⟨rfl, hb⟩
        go_wp2_with fail
        go_ret
        exact ⟨rfl, below_chain HS.out hb.out⟩
  · have C1 := Lib.hid (dnew_any x y AX nx cx xs w hnx HX.out)
    rw [if_neg hmay] at C1
    go_enter Try.func3, Try.ntmps3
    go_wp2_with fail
    refine C1.out.mono ?_
    rintro e W1 ⟨rfl, hb1⟩
    have S1 := Lib.hid hb1
    clear hb1
    go_wp2_with fail
    refine (refnew_any x y AX nx cx xs W1 hnx (HX.out.since S1.out)).mono ?_
    rw [if_neg hmay]
    rintro e w' ⟨rfl, rfl⟩
    go_wp2_with fail
    refine (dawake_any _).mono ?_
    rintro e W2 ⟨rfl, hb⟩
    go_wp2_with fail
    go_ret
    exact ⟨rfl, below_chain S1.out hb.out⟩
end Go.Proofs.Ytfhfjfgajbgdcaa
