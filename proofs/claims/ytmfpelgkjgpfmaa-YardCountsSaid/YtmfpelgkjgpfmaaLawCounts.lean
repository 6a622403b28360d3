/- YardCounts: true, whatever its arguments are. Conditions: the list's cells. -/
import Derived.Test.YtmfpelgkjgpfmaaYardDone
import Derived.Test.YtmfpelgkjgpfmaaYardAwake
set_option linter.unusedVariables false
set_option linter.unusedSimpArgs false
namespace Go.Proofs.Ytmfpelgkjgpfmaa
open Go.RowKit

section
variable {s : Yd} {b x : Int}
theorem len_open : (openY s b).1.S.length = s.S.length ∧ (openY s b).1.P = s.P := by unfold openY; (repeat' split) <;> first | exact ⟨rfl, rfl⟩ | exact ⟨by simp [Yd.setS, Yd.setT, Yd.setN, Yd.setD], rfl⟩
theorem len_next : (nextY s b).1.S.length = s.S.length ∧ (nextY s b).1.P = s.P := by unfold nextY; (repeat' split) <;> first | exact ⟨rfl, rfl⟩ | exact ⟨by simp [Yd.setS, Yd.setT, Yd.setN, Yd.setD], rfl⟩
theorem len_seal : (sealY s b).1.S.length = s.S.length ∧ (sealY s b).1.P = s.P := by unfold sealY; (repeat' split) <;> first | exact ⟨rfl, rfl⟩ | exact ⟨by simp [Yd.setS, Yd.setT, Yd.setN, Yd.setD], rfl⟩
theorem len_free : (freeY s b).1.S.length = s.S.length ∧ (freeY s b).1.P = s.P := by unfold freeY; (repeat' split) <;> first | exact ⟨rfl, rfl⟩ | exact ⟨by simp [Yd.setS, Yd.setT, Yd.setN, Yd.setD], rfl⟩
theorem len_retire : (retireY s b).1.S.length = s.S.length ∧ (retireY s b).1.P = s.P := by unfold retireY; (repeat' split) <;> first | exact ⟨rfl, rfl⟩ | exact ⟨by simp [Yd.setS, Yd.setT, Yd.setN, Yd.setD], rfl⟩
theorem len_want {p : Int} {d : Bool} : (wantY s b p d).1.S.length = s.S.length ∧ (wantY s b p d).1.P = s.P := by unfold wantY; (repeat' split) <;> first | exact ⟨rfl, rfl⟩ | exact ⟨by simp [Yd.setS, Yd.setT, Yd.setN, Yd.setD], rfl⟩
theorem len_drop {p : Int} : (dropY s b p).1.S.length = s.S.length ∧ (dropY s b p).1.P = s.P := by unfold dropY; (repeat' split) <;> first | exact ⟨rfl, rfl⟩ | exact ⟨by simp [Yd.setS, Yd.setT, Yd.setN, Yd.setD], rfl⟩
theorem len_wash {p : Int} : (washY s b p).1.S.length = s.S.length ∧ (washY s b p).1.P = s.P := by unfold washY; (repeat' split) <;> first | exact ⟨rfl, rfl⟩ | exact ⟨by simp [Yd.setS, Yd.setT, Yd.setN, Yd.setD], rfl⟩
theorem len_act (x : A11) : (actY s x).S.length = s.S.length ∧ (actY s x).P = s.P := by
  unfold actY
  split
  · exact len_open
  split
  · exact len_next
  split
  · exact len_seal
  split
  · exact len_free
  split
  · exact len_retire
  split
  · exact len_want
  split
  · exact len_drop
  split
  · exact len_wash
  exact ⟨rfl, rfl⟩
/-- How many blocks are of the first j states. -/
def cumY (s : Yd) : Nat → Nat
  | 0 => 0
  | j + 1 => cumY s j + (listY s ((j + 1 : Nat) : Int)).length
theorem four_states (l : List Int) : ∀ n, n ≤ l.length → (∀ k, k < l.length → 1 ≤ l.getD k 0 ∧ l.getD k 0 ≤ 4) → ((List.range n).filter fun k => l.getD k 0 == 1).length + ((List.range n).filter fun k => l.getD k 0 == 2).length + ((List.range n).filter fun k => l.getD k 0 == 3).length + ((List.range n).filter fun k => l.getD k 0 == 4).length = n
  | 0, _, _ => rfl
  | n + 1, hn, h => by
    have ih := four_states l n (by omega) h
    obtain ⟨h1, h2⟩ := h n (by omega)
    simp only [List.range_succ, List.filter_append, List.length_append]
    have key : ∀ z : Int, (List.filter (fun k => l.getD k 0 == z) [n]).length = if l.getD n 0 == z then 1 else 0 := fun z => by
      cases hz : (l.getD n 0 == z) with
      | true => rw [List.filter_cons_of_pos (by exact hz)]; rfl
      | false => rw [List.filter_cons_of_neg (by show ¬ (l.getD n 0 == z) = true; rw [hz]; decide)]; rfl
    simp only [key]
    generalize ((List.range n).filter fun k => l.getD k 0 == 1).length = c1 at ih ⊢
    generalize ((List.range n).filter fun k => l.getD k 0 == 2).length = c2 at ih ⊢
    generalize ((List.range n).filter fun k => l.getD k 0 == 3).length = c3 at ih ⊢
    generalize ((List.range n).filter fun k => l.getD k 0 == 4).length = c4 at ih ⊢
    have hy2 : l.getD n 0 = 1 ∨ l.getD n 0 = 2 ∨ l.getD n 0 = 3 ∨ l.getD n 0 = 4 := by omega
    rcases hy2 with e | e | e | e <;> (simp only [e]; simp; omega)
theorem cum_all (hw : YW s) : cumY s 4 = s.S.length := by
  have := four_states s.S s.S.length (Nat.le_refl _) hw.st
  show (((0 + (listY s 1).length) + (listY s 2).length) + (listY s 3).length) + (listY s 4).length = s.S.length
  unfold listY
  simp only [List.length_map]
  omega
theorem cum_le (hw : YW s) : ∀ j, cumY s j ≤ j * s.S.length
  | 0 => by simp [cumY]
  | j + 1 => by
    have := cum_le hw j
    have h2 : (listY s ((j + 1 : Nat) : Int)).length ≤ s.S.length := by
      unfold listY
      rw [List.length_map]
      exact Nat.le_trans (List.length_filter_le _ _) (by simp)
    show cumY s j + _ ≤ _
    rw [Nat.add_mul]
    omega
theorem count_range (l : List Bool) : l.count true = ((List.range l.length).filter fun k => l.getD k false).length := by
  induction l with
  | nil => rfl
  | cons a l ih =>
    rw [List.length_cons, List.range_succ_eq_map, List.filter_cons, List.filter_map]
    have e : (((List.range l.length).filter ((fun k => (a :: l).getD k false) ∘ Nat.succ)).map Nat.succ).length = l.count true := by
      rw [List.length_map, ih]; rfl
    cases a with
    | false => simpa using e.symm
    | true =>
      rw [List.count_cons_self, if_pos (show (true :: l).getD 0 false = true from rfl), List.length_cons, e]
theorem needed_len_le (hw : YW s) : (neededY s b).length ≤ s.P := by
  unfold neededY
  split
  · simp
  · rename_i h0
    obtain ⟨k, rfl, hk⟩ := (stY_ne hw).1 h0
    rw [Int.toNat_natCast]
    unfold idxB
    rw [List.length_map]
    exact Nat.le_trans (List.length_filter_le _ _) (by rw [List.length_range, hw.nl k hk]; exact Nat.le_refl _)
theorem dirty_le (hw : YW s) : dirtyY s b ≤ (neededY s b).length := by
  unfold dirtyY neededY
  split
  · simp
  · rename_i h0
    obtain ⟨k, rfl, hk⟩ := (stY_ne hw).1 h0
    rw [Int.toNat_natCast]
    unfold idxB
    rw [count_range, List.length_map, hw.nl k hk, hw.dl k hk, ← List.countP_eq_length_filter, ← List.countP_eq_length_filter]
    exact List.countP_mono_left fun q _ h => hw.dn k hk q h
theorem needed_free (hw : YW s) (h : stY s b = 1) : (neededY s b).length = 0 := by
  have h0 : stY s b ≠ 0 := by omega
  obtain ⟨k, rfl, hk⟩ := (stY_ne hw).1 h0
  unfold neededY
  rw [if_neg h0, Int.toNat_natCast, idx_nil.2 (hw.fr k hk (by rw [← stY_at hk]; exact h)).2]; rfl
end
set_option maxHeartbeats 32000000 in
set_option maxRecDepth 20000 in
theorem counts_law (A : Option Addr) (n c : Nat) (xs : List A11) (w : World) (hn : n ≤ 9223372036854775807) (hA : act11K.Lie w w.heap.size A n xs) :
    Calls Try.prog 4 #[.slice A n c] w (SaysB w true) := by
  by_cases h80 : 80 < n
  · clear hA
    go_enter Try.func4, Try.ntmps4
    go_wp2_with fail
    refine (yawake_any _).mono ?_
    rintro e W1 ⟨rfl, hb⟩
    go_wp2_with fail
    go_ret
    exact ⟨rfl, hb⟩
  have hn80 : n ≤ 80 := by omega
  have HA := Lib.hid hA
  clear hA h80
  go_enter Try.func4, Try.ntmps4
  go_wp2_with fail
  refine (ynew_any 4 5 _).mono ?_
  obtain ⟨s0, HS0⟩ : ∃ s0, Hid (freshY 4 5 = s0) := ⟨_, rfl⟩
  have HL0 : Hid (s0.S.length = 4 ∧ s0.P = 5) := by rw [← HS0.out]; exact ⟨rfl, rfl⟩
  rw [if_pos (show mayY 4 5 = true from rfl), show freshY (4 : Int).toNat (5 : Int).toNat = s0 from HS0.out]
  rintro e W0 ⟨gY, fY, rfl, hc0, hb0⟩
  go_wp2_with fail
  refine (rnew_any 4 5 _).mono ?_
  rw [if_pos (show mayY 4 5 = true from rfl), show freshY (4 : Int).toNat (5 : Int).toNat = s0 from HS0.out]
  rintro e W1 ⟨gR, fR, rfl, hc1, hb1⟩
  have C1 : Hid (BothY W1 w.heap.size fY fR gY gR s0) := ⟨hc0.since hb1, hc1.elder hb0.size, fun b h1 h2 => by have h3 := hc0.lt b h1; have h4 := hc1.ge b h2; omega⟩
  have S1 := Lib.hid (below_chain hb0 hb1)
  clear hc0 hb0 hc1 hb1 HS0
  go_wp2_with fail
  go_loopw [5] (fun t5 wr => ∃ (i : Nat) (s : Yd) (fY fR : Nat → Prop), t5 = .int .i64 i ∧ i ≤ n ∧ Hid (s.S.length = 4 ∧ s.P = 5) ∧ Hid (BothY wr w.heap.size fY fR gY gR s) ∧ Hid (Below w.heap.size w wr)) (fun t5 _ => n - (intOf t5).toNat)
  case atStart => exact ⟨0, s0, fY, fR, rfl, Nat.zero_le _, HL0, C1, S1⟩
  clear C1 S1 HL0
  case round =>
    obtain ⟨Wa, rfl⟩ : ∃ Wa, Wa = wr := ⟨_, rfl⟩
    obtain ⟨i, s, fY, fR, rfl, hi, HL, HC, HB⟩ := hrel
    have i0 : (0 : Int) ≤ (i : Int) := by omega
    by_cases hlt : i < n
    · skip
      have i1 : (i : Int) < (n : Int) := by omega
      obtain ⟨ad, e1, hblk, hat⟩ := (HA.out.since HB.out).each i hlt
      subst e1
      obtain ⟨x, HX⟩ : ∃ x, Hid (xs.getD i act11K.dflt = x) := ⟨_, rfl⟩
      rw [HX.out, show i * act11K.k = i * 4 from rfl] at hat
      obtain ⟨c0, c1, c2, c3⟩ := act11At_of hat
      have HL2 := Lib.hid (len_act (s := s) x)
      rw [HL.out.1, HL.out.2] at HL2
      clear hat
      go_wp2_with fail
      refine (done_any x HC.out).mono ?_
      rintro e W11 ⟨rfl, fY11, fR11, hc11, hs11⟩
      obtain ⟨s2, HS2⟩ : ∃ s2, Hid (actY s x = s2) := ⟨_, rfl⟩
      rw [HS2.out] at hc11 HL2
      have S11 := Lib.hid (hs11.below HB.out (fun b h => h.elim (HC.out.y.ge b) (HC.out.r.ge b)) HB.out.size)
      have C11 := Lib.hid hc11
      clear hc11 hs11 HB HC c0 c1 c2 c3 HS2
      go_wp2_with fail
      go_loopw [6, 7] (fun t6 t7 wr => ∃ (j : Nat), t6 = .int .i64 (cumY s2 j : Int) ∧ t7 = .int .i64 ((j + 1 : Nat) : Int) ∧ j ≤ 4 ∧ Hid (BothY wr w.heap.size fY11 fR11 gY gR s2) ∧ Hid (Below w.heap.size w wr)) (fun _ t7 _ => 5 - (intOf t7).toNat)
      case atStart => exact ⟨0, rfl, rfl, Nat.zero_le _, C11, S11⟩
      case round =>
        obtain ⟨Wb, rfl⟩ : ∃ Wb, Wb = wr := ⟨_, rfl⟩
        have HYW : Hid (YW s2) := C11.out.r.wf
        clear C11 S11
        obtain ⟨j, rfl, rfl, hj, HC, HB⟩ := hrel
        have j0 : (0 : Int) ≤ ((j + 1 : Nat) : Int) := by omega
        by_cases hltj : j < 4
        · skip
          have j1 : ((j + 1 : Nat) : Int) ≤ 4 := by omega
          have hcl := cum_le HYW.out j
          rw [HL2.out.1] at hcl
          obtain ⟨j2, HJ2⟩ : ∃ j2, Hid (j2 = j + 1) := ⟨_, rfl⟩
          have hj2 : j2 ≤ 4 := by rw [HJ2.out]; omega
          have HCU : Hid (cumY s2 j2 = cumY s2 j + (listY s2 (j2 : Int)).length) := by rw [HJ2.out]; rfl
          have hll : (listY s2 (j2 : Int)).length ≤ 4 := by unfold listY; rw [List.length_map]; exact Nat.le_trans (List.length_filter_le _ _) (by rw [List.length_range, HL2.out.1]; exact Nat.le_refl _)
          obtain ⟨ln, HLN⟩ : ∃ ln, Hid ((listY s2 (j2 : Int)).length = ln) := ⟨_, rfl⟩
          rw [HLN.out] at HCU hll
          obtain ⟨cu, HCV⟩ : ∃ cu, Hid (cumY s2 j = cu) := ⟨_, rfl⟩
          rw [HCV.out] at HCU hcl ⊢
          rw [← HJ2.out] at j0 j1 ⊢
          go_wp2_with fail
          refine (ylist_any (j2 : Int) HC.out.y).mono ?_
          rintro e W12 ⟨A12, n12, c12, rfl, hi12, hb12⟩
          obtain rfl : ln = n12 := HLN.out.symm.trans hi12.out.len
          have S12 := Lib.hid (below_chain HB.out hb12.out)
          have C12 := Lib.hid (HC.out.since hb12.out)
          clear hb12 hi12 HB HC
          go_wp2_with fail
          go_roundw
          case rel => exact ⟨j2, by rw [HCU.out]; simp, by go_num, by omega, C12, S12⟩
          case measure => simp [intOf]; omega
        · skip
          obtain rfl : j = 4 := by omega
          have HCA : Hid (cumY s2 4 = 4) := (cum_all HYW.out).trans HL2.out.1
          rw [HCA.out, show ((4 : Nat) : Int) = 4 from rfl, show ((4 + 1 : Nat) : Int) = 5 from rfl]
          go_wp2_with fail
          go_loopw [8] (fun t8 wr => ∃ (b : Nat), t8 = .int .i64 b ∧ b ≤ 4 ∧ Hid (BothY wr w.heap.size fY11 fR11 gY gR s2) ∧ Hid (Below w.heap.size w wr)) (fun t8 _ => 4 - (intOf t8).toNat)
          case atStart => exact ⟨0, rfl, Nat.zero_le _, HC, HB⟩
          clear HC HB
          case round =>
            obtain ⟨Wc, rfl⟩ : ∃ Wc, Wc = wr := ⟨_, rfl⟩
            obtain ⟨b, rfl, hb, HC, HB⟩ := hrel
            have b0 : (0 : Int) ≤ (b : Int) := by omega
            by_cases hltb : b < 4
            · skip
              have b1 : (b : Int) < 4 := by omega
              have hd := dirty_le (b := (b : Int)) HYW.out
              have hl := needed_len_le (b := (b : Int)) HYW.out
              have HFR := Lib.hid (needed_free (b := (b : Int)) HYW.out)
              rw [HL2.out.2] at hl
              obtain ⟨nd, HND⟩ : ∃ n, Hid ((neededY s2 (b : Int)).length = n) := ⟨_, rfl⟩
              obtain ⟨dv, HDV⟩ : ∃ n, Hid (dirtyY s2 (b : Int) = n) := ⟨_, rfl⟩
              have HDW : Hid (((dirtyY s2 (b : Int) : Nat) : Int) = (dv : Int)) := by show _ = _; rw [HDV.out]
              rw [HND.out] at hd hl HFR
              rw [HDV.out] at hd
              obtain ⟨q, HQ⟩ : ∃ q, Hid (stY s2 (b : Int) = q) := ⟨_, rfl⟩
              rw [HQ.out] at HFR
              have g1 : ¬ (nd : Int) < (dv : Int) := by omega
              have g2 : ¬ (5 : Int) < (nd : Int) := by omega
              go_wp2_with fail
              refine (ydirty_any (b : Int) HC.out.y).mono ?_
              rw [HDW.out]
              rintro e W12 ⟨rfl, hb12⟩
              have S12 := Lib.hid (below_chain HB.out hb12.out)
              have C12 := Lib.hid (HC.out.since hb12.out)
              clear hb12 HB HC
              go_wp2_with fail
              refine (yneeded_any (b : Int) C12.out.y).mono ?_
              rintro e W13 ⟨A13, n13, c13, rfl, hi13, hb13⟩
              obtain rfl : nd = n13 := HND.out.symm.trans hi13.out.len
              have S13 := Lib.hid (below_chain S12.out hb13.out)
              have C13 := Lib.hid (C12.out.since hb13.out)
              clear hb13 hi13 S12 C12
              go_wp2_with fail
              refine (yneeded_any (b : Int) C13.out.y).mono ?_
              rintro e W14 ⟨A14, n14, c14, rfl, hi14, hb14⟩
              obtain rfl : nd = n14 := HND.out.symm.trans hi14.out.len
              have S14 := Lib.hid (below_chain S13.out hb14.out)
              have C14 := Lib.hid (C13.out.since hb14.out)
              clear hb14 hi14 S13 C13
              go_wp2_with fail
              refine (ystate_any (b : Int) C14.out.y).mono ?_
              rw [HQ.out]
              rintro e W15 ⟨rfl, hb15⟩
              have S15 := Lib.hid (below_chain S14.out hb15.out)
              have C15 := Lib.hid (C14.out.since hb15.out)
              clear hb15 S14 C14
              by_cases hq : q = 1
              · have hz := HFR.out hq
                subst hq
                subst hz
                go_wp2_with fail
                refine (yneeded_any (b : Int) C15.out.y).mono ?_
                rintro e W16 ⟨A16, n16, c16, rfl, hi16, hb16⟩
                obtain rfl : 0 = n16 := HND.out.symm.trans hi16.out.len
                have S16 := Lib.hid (below_chain S15.out hb16.out)
                have C16 := Lib.hid (C15.out.since hb16.out)
                clear hb16 hi16 S15 C15
                go_wp2_with fail
                go_roundw
                case rel => exact ⟨b + 1, by go_num, by omega, C16, S16⟩
                case measure => simp [intOf]; omega
              · have hqb : (q == 1) = false := by simpa using hq
                clear hq
                go_wp2_with fail
                go_roundw
                case rel => exact ⟨b + 1, by go_num, by omega, C15, S15⟩
                case measure => simp [intOf]; omega
            · skip
              go_wp2_with fail
              go_roundw
              case rel => exact ⟨i + 1, s2, _, _, by go_num, by omega, HL2, HC, HB⟩
              case measure => simp [intOf]; omega
    · skip
      go_wp2_with fail
      refine (yawake_any _).mono ?_
      rintro e W301 ⟨rfl, hb301⟩
      have S301 := Lib.hid (below_chain HB.out hb301.out)
      go_wp2_with fail
      go_ret
      exact ⟨rfl, S301⟩
end Go.Proofs.Ytmfpelgkjgpfmaa
