/- BackParts: true, whatever its arguments are. Conditions: the list's cells. -/
import Derived.Test.YtiojnpoefbnjoaaBackAwake
import Derived.Test.YtiojnpoefbnjoaaPartsMath14
import Derived.Test.YtiojnpoefbnjoaaAppAll
import Derived.Test.YtiojnpoefbnjoaaShared
set_option linter.unusedVariables false
set_option linter.unusedSimpArgs false
namespace Go.Proofs.Ytiojnpoefbnjoaa
open Go.RowKit

theorem max_of14 (ts : Array TypeId) (ty : TypeId) (p q m : Int) (h : (q ≤ p ∧ m = p) ∨ (p ≤ q ∧ m = q)) (w : World) : (Builtin.max_ ts ty #[.int .i64 p, .int .i64 q]).run Try.prog w = .ok (.int .i64 m) w := by
  simp only [Builtin.max_]
  rcases h with ⟨h, rfl⟩ | ⟨h, rfl⟩
  · simp [Builtin.max2]; omega
  · simp [Builtin.max2]; omega
theorem u64_bd (y : Int) : 0 ≤ IntKind.u64.wrap y ∧ IntKind.u64.wrap y ≤ 18446744073709551615 := by rw [IntKind.wrap_u64]; omega
set_option maxHeartbeats 16000000 in
set_option maxRecDepth 20000 in
theorem parts_law (x1 : Int) (A : Option Addr) (n c : Nat) (xs : List Int) (x3 : Int) (w : World) (hn : n ≤ 9223372036854775807) (hA : wordK.Lie w w.heap.size A n xs) :
    Calls Try.prog 4 #[.int .i64 x1, .slice A n c, .int .i64 x3] w (SaysB w true) := by
  have HA := Lib.hid hA
  have HAL := Lib.hid hA.len
  have HXW : Hid (∀ k, 0 ≤ xs.getD k 0 ∧ xs.getD k 0 ≤ 18446744073709551615) := fun k => hA.wf k
  clear hA
  by_cases h60 : 60 < n
  · go_enter Try.func4, Try.ntmps4
    go_wp2_with fail
    refine (bkawake_any _).mono ?_
    rintro e W1 ⟨rfl, hb⟩
    go_wp2_with fail
    go_ret
    exact ⟨rfl, hb⟩
  have hn60 : n ≤ 60 := by omega
  clear h60 hn
  obtain ⟨q, HQ⟩ : ∃ q : Nat, Hid (lowM x1 256 = (q : Int)) := ⟨(lowM x1 256).toNat, by have := lowM_bd x1 256 (by omega); show _ = _; omega⟩
  have hq : q ≤ 255 := by have := lowM_bd x1 256 (by omega); have := HQ.out; omega
  obtain ⟨P, hP1, hP2, hPn, hmx⟩ : ∃ P : Nat, 1 ≤ P ∧ P ≤ 256 ∧ n ≤ P ∧ (∀ ts ty w, (Builtin.max_ ts ty #[.int .i64 (1 + (q : Int)), .int .i64 (n : Int)]).run Try.prog w = .ok (.int .i64 (P : Int)) w) := by
    by_cases h : n ≤ 1 + q
    · exact ⟨1 + q, by omega, by omega, h, fun ts ty w => max_of14 ts ty _ _ _ (Or.inl ⟨by omega, by omega⟩) w⟩
    · exact ⟨n, by omega, by omega, Nat.le_refl _, fun ts ty w => max_of14 ts ty _ _ _ (Or.inr ⟨by omega, rfl⟩) w⟩
  obtain ⟨d, HD⟩ : ∃ d : Nat, Hid (lowM x3 ((P : Int) + 1) = (d : Int)) := ⟨(lowM x3 ((P : Int) + 1)).toNat, by have := lowM_bd x3 ((P : Int) + 1) (by omega); show _ = _; omega⟩
  have hd : d ≤ P := by have := lowM_bd x3 ((P : Int) + 1) (by omega); have := HD.out; omega
  have HMAY : Hid (mayBk (P : Int) = true) := by show _ = _; unfold mayBk; rw [decide_eq_true (by omega), decide_eq_true (by omega)]; rfl
  have P0 : (0 : Int) ≤ (P : Int) := by omega
  have q0 : (0 : Int) ≤ (q : Int) := by omega
  go_enter Try.func4, Try.ntmps4
  go_wp2_with fail
  refine (low_any x1 256 (by omega) (by omega) _).mono ?_
  rw [HQ.out]
  rintro e w' ⟨rfl, rfl⟩
  go_wp2_with (first | (at_builtin; simp only [hmx]) | (simp only [hmx]))
  clear hmx
  refine (bknew_any (P : Int) _).mono ?_
  rw [if_pos HMAY.out, Int.toNat_natCast]
  rintro e W0 ⟨g, fp0, rfl, hc0, hb0⟩
  have C0 : Hid (BkAt W0 w.heap.size fp0 g (ptB xs P 0)) := hc0
  have S0 := Lib.hid hb0
  clear hc0 hb0 HMAY
  go_wp2_with fail
  go_loopw [8] (fun t8 wr => ∃ (i : Nat) (fp : Nat → Prop), t8 = .int .i64 i ∧ i ≤ n ∧ Hid (BkAt wr w.heap.size fp g (ptB xs P i)) ∧ Hid (Below w.heap.size w wr)) (fun t8 _ => n - (intOf t8).toNat)
  case atStart => exact ⟨0, fp0, rfl, Nat.zero_le _, C0, S0⟩
  clear C0 S0
  case round =>
    obtain ⟨Wa, rfl⟩ : ∃ Wa, Wa = wr := ⟨_, rfl⟩
    obtain ⟨i, fp, rfl, hi, HC, HB⟩ := hrel
    have i0 : (0 : Int) ≤ (i : Int) := by omega
    by_cases hlt : i < n
    · skip
      have i1 : (i : Int) < (n : Int) := by omega
      obtain ⟨ad, had, hblk, hcell⟩ := word_at (HA.out.since HB.out) hlt
      subst had
      obtain ⟨y, HY⟩ : ∃ y, Hid (xs.getD i 0 = y) := ⟨_, rfl⟩
      rw [HY.out] at hcell
      have hy : 0 ≤ y ∧ y ≤ 18446744073709551615 := by rw [← HY.out]; exact HXW.out i
      have hil : i < (ptB xs P i).length := by rw [ptB_len]; omega
      have E1 : Hid (setBk (ptB xs P i) (i : Int) (IntKind.u64.wrap (y + 1)) = ((ptB xs P i).set i (some (IntKind.u64.wrap (y + 1))), 0)) := set_at hil ptB_none
      have E2 : Hid (clearBk ((ptB xs P i).set i (some (IntKind.u64.wrap (y + 1)))) (i : Int) = (ptB xs P i, 0)) := by
        show _ = _
        rw [clear_at (by rw [List.length_set]; exact hil) (by rw [getD_setBk, if_pos ⟨rfl, hil⟩]; rfl), set_clear ptB_none]
      have E3 : Hid (setBk (ptB xs P i) (i : Int) y = (ptB xs P (i + 1), 0)) := by
        show _ = _
        rw [set_at hil ptB_none, ← HY.out]; rfl
      clear hil
      have hz := u64_bd (y + 1)
      go_wp2_with fail
      clear hcell
      refine (bkset_any (i : Int) (IntKind.u64.wrap (y + 1)) hz.1 hz.2 HC.out).mono ?_
      rw [E1.out]
      rintro e W1 ⟨v1, fp1, rfl, he1, hc1, hm1⟩
      have S1 := Lib.hid (hm1.below HB.out HC.out.ge HC.out.base_le)
      have C1 := Lib.hid hc1
      obtain rfl := he1.nil
      clear he1 hc1 hm1 HC HB E1
      go_wp2_with fail
      refine (bkclear_any (i : Int) C1.out).mono ?_
      rw [E2.out]
      rintro e W2 ⟨v2, fp2, rfl, he2, hc2, hm2⟩
      have S2 := Lib.hid (hm2.below S1.out C1.out.ge C1.out.base_le)
      have C2 := Lib.hid hc2
      obtain rfl := he2.nil
      clear he2 hc2 hm2 C1 S1 E2
      obtain ⟨ad2, had2, hblk2, hcell⟩ := word_at (HA.out.since S2.out) hlt
      obtain rfl := Option.some.inj had2
      rw [HY.out] at hcell
      go_wp2_with fail
      clear hcell
      refine (bkset_any (i : Int) y hy.1 hy.2 C2.out).mono ?_
      rw [E3.out]
      rintro e W3 ⟨v3, fp3, rfl, he3, hc3, hm3⟩
      have S3 := Lib.hid (hm3.below S2.out C2.out.ge C2.out.base_le)
      have C3 := Lib.hid hc3
      obtain rfl := he3.nil
      clear he3 hc3 hm3 C2 S2 E3
      go_wp2_with fail
      go_roundw
      case rel => exact ⟨i + 1, fp3, by go_num, by omega, C3, S3⟩
      case measure => simp [intOf]; omega
    · obtain rfl : i = n := by omega
      clear hlt hi HXW
      have d0 : (0 : Int) ≤ (d : Int) := by omega
      have hdP : (d : Int) ≤ (P : Int) := by omega
      have HPT : Hid (rangeBk (ptB xs P i) 0 (d : Int) ++ rangeBk (ptB xs P i) (d : Int) (P : Int) = xs) := pt_range HAL.out hPn hd
      obtain ⟨l1, H1⟩ : ∃ l, Hid (rangeBk (ptB xs P i) 0 (d : Int) = l) := ⟨_, rfl⟩
      obtain ⟨l2, H2⟩ : ∃ l, Hid (rangeBk (ptB xs P i) (d : Int) (P : Int) = l) := ⟨_, rfl⟩
      have H1L : Hid (l1.length ≤ P) := by show _ ≤ _; rw [← H1.out]; exact Nat.le_trans range_len_le (by rw [ptB_len]; exact Nat.le_refl _)
      have H2L : Hid (l2.length ≤ P) := by show _ ≤ _; rw [← H2.out]; exact Nat.le_trans range_len_le (by rw [ptB_len]; exact Nat.le_refl _)
      rw [H1.out, H2.out] at HPT
      have HPG : Hid ((pagesBk (ptB xs P i)).length = i) := pt_pages hPn
      obtain ⟨s, HS⟩ : ∃ s, Hid (ptB xs P i = s) := ⟨_, rfl⟩
      rw [HS.out] at H1 H2 HPG HC
      clear HS
      go_wp2_with fail
      refine (low_any x3 ((P : Int) + 1) (by omega) (by omega) _).mono ?_
      rw [HD.out]
      rintro e w' ⟨rfl, rfl⟩
      go_wp2_with fail
      refine (bkrange_any 0 (d : Int) HC.out).mono ?_
      rw [H1.out]
      rintro e W1 ⟨A1, n1, c1, rfl, hi1, hb1⟩
      have S1 := Lib.hid (below_chain HB.out hb1.out)
      have C1 := Lib.hid (HC.out.since hb1.out)
      have hn1 : n1 ≤ P := by have := hi1.out.len; have := H1L.out; omega
      have R0 : RestK wordK fp W1 W1.heap.size none 0 0 [] := RestK.new Kind.Row.none_ C1.out.lt
      obtain ⟨A2, c2, W2, hr2, hp2, ht2⟩ := R0.append_all (c' := c1) hi1.out.lie (Nat.le_refl _) C1.out.lt (by omega)
      have R2 := Lib.hid hr2
      have P2 := Lib.hid hp2
      have C2 := Lib.hid (C1.out.keep ht2 (fun b h => by cases h))
      have S2 := Lib.hid (ht2.chain S1.out (fun b h => by cases h) S1.out.size)
      rw [Nat.zero_add] at P2 R2
      have hs2 := ht2.size
      have S1s := S1.out.size
      have HL1 : Hid (l1.length = n1) := hi1.out.len
      clear R0 hr2 hp2 ht2 hi1 hb1 HC HB C1 S1 H1
      go_wp2_with (at_builtin; refine wpList_append_run rfl (.const (.slice none 0 0)) (.tmp 64) 41 rfl rfl rfl R2.out ?_)
      clear R2
      refine (bkrange_any (d : Int) (P : Int) C2.out).mono ?_
      rw [H2.out]
      rintro e W3 ⟨A3, n3, c3, rfl, hi3, hb3⟩
      have S3 := Lib.hid (below_chain S2.out hb3.out)
      have C3 := Lib.hid (C2.out.since hb3.out)
      have P3 := Lib.hid (P2.out.since hb3.out)
      have HL3 : Hid (l2.length = n3) := hi3.out.len
      have hn3 : n3 ≤ P := by have := HL3.out; have := H2L.out; omega
      have hsz : W1.heap.size ≤ W3.heap.size := Nat.le_trans hs2 hb3.out.size
      obtain ⟨A4, c4, W4, hr4, hp4, ht4⟩ := P3.out.append_all (c' := c3) hi3.out.lie hsz C3.out.lt (by omega)
      have hnn : n1 + n3 = i := by
        have h1 := congrArg List.length HPT.out
        rw [List.length_append, HL1.out, HL3.out, HAL.out] at h1
        exact h1
      have R4 := Lib.hid hr4
      have C4 := Lib.hid (C3.out.keep ht4 P3.out.safe)
      have S4 := Lib.hid (ht4.chain S3.out (fun b hb => Nat.le_trans S1s (Row.blk_ge P3.out.row b hb)) S3.out.size)
      rw [List.nil_append, HPT.out, hnn] at hp4
      rw [hnn] at R4
      have P4 := Lib.hid hp4
      clear hr4 hp4 ht4 hi3 hb3 C2 S2 P2 C3 S3 P3 hs2 hsz HPT H1L H2L HL1 HL3 hnn hn1 hn3 S1s
      go_wp2_with (at_builtin; refine wpList_append_run rfl (.tmp 65) (.tmp 69) 41 rfl rfl rfl R4.out ?_)
      clear R4
      refine (bkof_nil 0 _).mono ?_
      rintro e W5 ⟨rfl, hb5⟩
      have S5 := Lib.hid (below_chain S4.out hb5.out)
      have C5 := Lib.hid (C4.out.since hb5.out)
      have P5 := Lib.hid (P4.out.since hb5.out)
      have A5 := Lib.hid (HA.out.since S5.out)
      clear hb5 C4 S4 P4 HA
      go_wp2_with fail
      refine (samewords_yes _ _ i _ _ xs _ (by omega) P5.out.row.lie A5.out).mono ?_
      rintro e W6 ⟨rfl, hb6⟩
      have S6 := Lib.hid (below_chain S5.out hb6)
      have C6 := Lib.hid (C5.out.since hb6)
      clear hb6 C5 S5 P5 A5
      go_wp2_with fail
      refine (bkpages_any C6.out).mono ?_
      rintro e W7 ⟨A7, n7, c7, rfl, hi7, hb7⟩
      obtain rfl : i = n7 := HPG.out.symm.trans hi7.out.len
      have S7 := Lib.hid (below_chain S6.out hb7.out)
      have C7 := Lib.hid (C6.out.since hb7.out)
      clear hi7 hb7 C6 S6 HPG
      go_wp2_with fail
      refine (bkrange_any (d : Int) (d : Int) C7.out).mono ?_
      rw [range_self]
      rintro e W8 ⟨A8, n8, c8, rfl, hi8, hb8⟩
      obtain rfl : 0 = n8 := hi8.out.len
      have S8 := Lib.hid (below_chain S7.out hb8.out)
      clear hi8 hb8 C7 S7
      go_wp2_with fail
      refine (bkset_nil 0 1 _).mono ?_
      rintro e W9 ⟨v9, rfl, he9, hb9⟩
      have S9 := Lib.hid (below_chain S8.out hb9)
      clear hb9 S8
      go_wp2_with fail
      refine (err_num he9).mono ?_
      rintro e W10 ⟨rfl, hw10⟩
      subst hw10
      clear he9
      go_wp2_with fail
      refine (bkclear_nil 0 _).mono ?_
      rintro e W11 ⟨v11, rfl, he11, hb11⟩
      have S11 := Lib.hid (below_chain S9.out hb11)
      clear hb11 S9
      go_wp2_with fail
      refine (err_num he11).mono ?_
      rintro e W12 ⟨rfl, hw12⟩
      subst hw12
      clear he11
      go_wp2_with fail
      refine (bkpages_nil _).mono ?_
      rintro e W13 ⟨rfl, hb13⟩
      have S13 := Lib.hid (below_chain S11.out hb13.out)
      clear hb13 S11
      go_wp2_with fail
      refine (bkawake_any _).mono ?_
      rintro e W14 ⟨rfl, hb14⟩
      have S14 := Lib.hid (below_chain S13.out hb14.out)
      go_wp2_with fail
      go_ret
      exact ⟨rfl, S14⟩
end Go.Proofs.Ytiojnpoefbnjoaa
