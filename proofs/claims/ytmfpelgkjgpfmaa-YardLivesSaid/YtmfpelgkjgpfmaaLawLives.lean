/- YardLives: true, whatever its arguments are. Conditions: the list's cells. -/
import Derived.Test.YtmfpelgkjgpfmaaYardAwake
import Derived.Test.YtmfpelgkjgpfmaaYardRun
import Derived.Test.YtmfpelgkjgpfmaaBools
set_option linter.unusedVariables false
set_option linter.unusedSimpArgs false
namespace Go.Proofs.Ytmfpelgkjgpfmaa
open Go.RowKit

theorem bool_at {w : World} {B n : Nat} {A : Option Addr} {xs : List Bool} (h : boolK.Lie w B A n xs) {k : Nat} (hk : k < n) : ∃ ad, A = some ad ∧ ad.block < B ∧ w.cell? (ad.add k) = some (.bool (xs.getD k false)) := by
  obtain ⟨ad, e1, e2, e3⟩ := h.each k hk
  have := boolK_at (b := xs.getD k false) e3
  rw [show k * boolK.k = k from Nat.mul_one k] at this
  exact ⟨ad, e1, e2, this⟩
/-- Those that are needed till the p-th one. -/
def fN (bs : List Bool) (p : Nat) : Nat → Bool := fun q => decide (q < p) && bs.getD q false
/-- Those that are needed from the p-th one on. -/
def fD (bs : List Bool) (p : Nat) : Nat → Bool := fun q => decide (p ≤ q) && bs.getD q false
def someN (bs : List Bool) (p : Nat) : Bool := (List.range p).any fun q => bs.getD q false
theorem fN_up {bs : List Bool} {p : Nat} (h : bs.getD p false = true) : upF (fN bs p) p true = fN bs (p + 1) := by
  funext q
  unfold upF fN
  by_cases e : q = p
  · subst e; rw [if_pos rfl, h]; simp
  · rw [if_neg e]
    have : decide (q < p + 1) = decide (q < p) := by simp; omega
    rw [this]
theorem fN_no {bs : List Bool} {p : Nat} (h : bs.getD p false = false) : fN bs p = fN bs (p + 1) := by
  funext q
  unfold fN
  by_cases e : q = p
  · subst e; rw [h]; simp
  · have : decide (q < p + 1) = decide (q < p) := by simp; omega
    rw [this]
theorem fD_up {bs : List Bool} {p : Nat} : upF (fD bs p) p false = fD bs (p + 1) := by
  funext q
  unfold upF fD
  by_cases e : q = p
  · subst e; rw [if_pos rfl, decide_eq_false (show ¬ q + 1 ≤ q by omega)]; rfl
  · rw [if_neg e]
    have : decide (p + 1 ≤ q) = decide (p ≤ q) := by simp; omega
    rw [this]
theorem fD_no {bs : List Bool} {p : Nat} (h : bs.getD p false = false) : fD bs p = fD bs (p + 1) := by
  funext q
  unfold fD
  by_cases e : q = p
  · subst e; rw [h]; simp
  · have : decide (p + 1 ≤ q) = decide (p ≤ q) := by simp; omega
    rw [this]
theorem fN_zero {bs : List Bool} : fN bs 0 = zf := by funext q; simp [fN, zf]
theorem fN_all {bs : List Bool} {n : Nat} (h : bs.length = n) : fN bs n = fD bs 0 := by
  funext q
  unfold fN fD
  by_cases e : q < n
  · simp [e]
  · rw [List.getD_eq_getElem?_getD, List.getElem?_eq_none (by omega)]; simp
theorem fD_all {bs : List Bool} {n : Nat} (h : bs.length = n) : fD bs n = zf := by
  funext q
  unfold fD zf
  by_cases e : q < n
  · have : decide (n ≤ q) = false := by simp; omega
    rw [this]; rfl
  · rw [List.getD_eq_getElem?_getD, List.getElem?_eq_none (by omega)]; simp
theorem someN_up {bs : List Bool} {p : Nat} : someN bs (p + 1) = (someN bs p || bs.getD p false) := by
  unfold someN
  rw [List.range_succ, List.any_append]; simp
theorem someN_no {bs : List Bool} {n : Nat} (hl : bs.length = n) (h : someN bs n = false) (q : Nat) : bs.getD q false = false := by
  by_cases e : q < n
  · unfold someN at h
    rw [List.any_eq_false] at h
    have := h q (List.mem_range.2 e)
    cases hq : bs.getD q false with
    | false => rfl
    | true => rw [hq] at this; exact absurd rfl this
  · rw [List.getD_eq_getElem?_getD, List.getElem?_eq_none (by omega)]; rfl
theorem someN_yes {bs : List Bool} {n : Nat} (h : someN bs n = true) : ∃ q, q < n ∧ bs.getD q false = true := by
  unfold someN at h
  rw [List.any_eq_true] at h
  obtain ⟨q, h1, h2⟩ := h
  exact ⟨q, List.mem_range.1 h1, h2⟩
theorem zf_dn {n b : Nat} {st tk : Int} {d : Nat → Bool} (hw : YW (lvY n b 4 st tk zf d)) (hb : b < n) : ∀ q, q < 4 → d q = false := fun q hq => by
  cases h : d q with
  | false => rfl
  | true => have := lv_dn hw hb hq h; cases this
set_option maxHeartbeats 32000000 in
set_option maxRecDepth 20000 in
theorem lives_law (x1 x2 x3 : Int) (A : Option Addr) (m c : Nat) (bs : List Bool) (w : World) (hm : m ≤ 9223372036854775807) (hA : boolK.Lie w w.heap.size A m bs) :
    Calls Try.prog 3 #[.int .i64 x1, .int .i64 x2, .int .i64 x3, .slice A m c] w (SaysB w true) := by
  obtain ⟨n, HN⟩ : ∃ n : Nat, Hid (1 + lowM x1 32 = (n : Int)) := ⟨(1 + lowM x1 32).toNat, by have := lowM_bd x1 32 (by omega); show _ = _; omega⟩
  have hn1 : 1 ≤ n := by have := lowM_bd x1 32 (by omega); have := HN.out; omega
  have hn32 : n ≤ 32 := by have := lowM_bd x1 32 (by omega); have := HN.out; omega
  obtain ⟨lo, HLO⟩ : ∃ lo, Hid (lowM x1 32 = lo) := ⟨_, rfl⟩
  have hlo : 0 ≤ lo ∧ lo < 32 := by rw [← HLO.out]; exact lowM_bd x1 32 (by omega)
  have HN2 : Hid (1 + lo = (n : Int)) := by show _ = _; rw [← HLO.out]; exact HN.out
  obtain ⟨b, HB0⟩ : ∃ b : Nat, Hid (lowM x2 n = (b : Int)) := ⟨(lowM x2 n).toNat, by have := lowM_bd x2 n (by omega); show _ = _; omega⟩
  have hb : b < n := by have := lowM_bd x2 n (by omega); have := HB0.out; omega
  obtain ⟨lv, HLV⟩ : ∃ lv : Nat, Hid (lowM x3 8 = (lv : Int)) := ⟨(lowM x3 8).toNat, by have := lowM_bd x3 8 (by omega); show _ = _; omega⟩
  have hlv : lv < 8 := by have := lowM_bd x3 8 (by omega); have := HLV.out; omega
  clear HN
  have HMAY : Hid (mayY (n : Int) 4 = true) := by show _ = _; unfold mayY; simp; omega
  obtain ⟨sA, HSA⟩ : ∃ s, Hid (lvY n b 4 1 0 zf zf = s) := ⟨_, rfl⟩
  have HFR : Hid (freshY (n : Int).toNat (4 : Int).toNat = sA) := by show _ = _; rw [← HSA.out, Int.toNat_natCast]; exact lv_fresh
  have n0 : (1 : Int) ≤ (n : Int) := by omega
  have nb0 : (0 : Int) ≤ (b : Int) := by omega
  have HA := Lib.hid hA
  have HBL := Lib.hid hA.len
  clear hA
  go_enter Try.func3, Try.ntmps3
  go_wp2_with fail
  refine (low_any x1 32 (by omega) (by omega) _).mono ?_
  rw [HLO.out]
  rintro e w' ⟨rfl, rfl⟩
  go_wp2_with (simp only [HN2.out])
  refine (low_any x2 n (by omega) (by omega) _).mono ?_
  rw [HB0.out]
  rintro e w' ⟨rfl, rfl⟩
  go_wp2_with fail
  refine (low_any x3 8 (by omega) (by omega) _).mono ?_
  rw [HLV.out]
  rintro e w' ⟨rfl, rfl⟩
  go_wp2_with fail
  refine (ynew_any n 4 _).mono ?_
  rw [if_pos (show mayY n 4 = true from HMAY.out), show freshY (n : Int).toNat (4 : Int).toNat = sA from HFR.out]
  rintro e W0 ⟨g, fp0, rfl, hc0, hb0⟩
  have C0 := Lib.hid hc0
  have S0 := Lib.hid hb0
  clear hc0 hb0 HFR HMAY HLO hlo
  by_cases h4 : 4 < m
  · skip
    go_wp2_with fail
    refine (yawake_any _).mono ?_
    rintro e W2 ⟨rfl, hb2⟩
    have S2 := Lib.hid (below_chain S0.out hb2.out)
    go_wp2_with fail
    go_ret
    exact ⟨rfl, S2⟩
  have hm4 : m ≤ 4 := by omega
  clear h4
  go_wp2_with fail
  go_loopw [10] (fun t10 wr => ∃ (i : Nat) (fp : Nat → Prop), t10 = .int .i64 i ∧ i ≤ lv ∧ Hid (YardAt wr w.heap.size fp g sA) ∧ Hid (Below w.heap.size w wr)) (fun t10 _ => lv - (intOf t10).toNat)
  case atStart => exact ⟨0, fp0, rfl, Nat.zero_le _, C0, S0⟩
  clear C0 S0
  case round =>
    obtain ⟨Wa, rfl⟩ : ∃ Wa, Wa = wr := ⟨_, rfl⟩
    obtain ⟨i, fp, rfl, hi, HC, HB⟩ := hrel
    have i0 : (0 : Int) ≤ (i : Int) := by omega
    by_cases hlt : i < lv
    · skip
      have i1 : (i : Int) < (lv : Int) := by omega
      obtain ⟨sB, HSB⟩ : ∃ s, Hid (lvY n b 4 2 0 zf zf = s) := ⟨_, rfl⟩
      have H1 : Hid (openY sA b = (sB, 0)) := by show _ = _; rw [← HSA.out, ← HSB.out]; exact lv_open hb
      have H2 : Hid (openY sB b = (sB, 9)) := by show _ = _; rw [← HSB.out]; exact lv_open_no hb (by decide) (by decide)
      go_wp2_with fail
      refine (yopen_any (b : Int) HC.out).mono ?_
      rw [H1.out]
      rintro e W11 ⟨v11, fp11, rfl, he11, hc11, hs11⟩
      have S11 := Lib.hid (hs11.below HB.out HC.out.ge HB.out.size)
      have C11 := Lib.hid hc11
      obtain rfl := he11.nil
      clear he11
      clear hc11 hs11 HB HC
      go_wp2_with fail
      refine (yopen_any (b : Int) C11.out).mono ?_
      rw [H2.out]
      rintro e W12 ⟨v12, fp12, rfl, he12, hc12, hs12⟩
      have S12 := Lib.hid (hs12.below S11.out C11.out.ge S11.out.size)
      have C12 := Lib.hid hc12
      have E12 := Lib.hid he12.at_
      clear he12
      clear hc12 hs12 S11 C11
      go_wp2_with fail
      refine (err_num E12.out).mono ?_
      rintro e W13 ⟨rfl, hw13⟩
      subst hw13
      clear E12
      go_wp2_with fail
      rw [← HSB.out] at C12
      go_loopw [11] (fun t11 wr => ∃ (p : Nat) (fp : Nat → Prop), t11 = .int .i64 p ∧ p ≤ 4 ∧ Hid (YardAt wr w.heap.size fp g (lvY n b 4 2 p zf zf)) ∧ Hid (Below w.heap.size w wr)) (fun t11 _ => 4 - (intOf t11).toNat)
      case atStart => exact ⟨0, _, rfl, Nat.zero_le _, C12, S12⟩
      clear C12 S12
      case round =>
        obtain ⟨Wb, rfl⟩ : ∃ Wb, Wb = wr := ⟨_, rfl⟩
        obtain ⟨p, fp, rfl, hp, HC, HB⟩ := hrel
        have p0 : (0 : Int) ≤ (p : Int) := by omega
        by_cases hltp : p < 4
        · skip
          have p1 : (p : Int) < 4 := by omega
          obtain ⟨sp, HSP⟩ : ∃ s, Hid (lvY n b 4 2 p zf zf = s) := ⟨_, rfl⟩
          have H3 : Hid (nextY sp b = (lvY n b 4 2 ((p + 1 : Nat) : Int) zf zf, (p : Int), 0)) := by show _ = _; rw [← HSP.out]; exact lv_next hb hltp
          rw [HSP.out] at HC
          go_wp2_with fail
          refine (ynext_any (b : Int) HC.out).mono ?_
          rw [H3.out]
          rintro e W14 ⟨v14, fp14, rfl, he14, hc14, hs14⟩
          have S14 := Lib.hid (hs14.below HB.out HC.out.ge HB.out.size)
          have C14 := Lib.hid hc14
          obtain rfl := he14.nil
          clear he14
          clear hc14 hs14 HB HC
          go_wp2_with fail
          go_roundw
          case rel => exact ⟨p + 1, fp14, by go_num, by omega, C14, S14⟩
          case measure => simp [intOf]; omega
        · skip
          obtain rfl : p = 4 := by omega
          obtain ⟨sC, HSC⟩ : ∃ s, Hid (lvY n b 4 2 ((4 : Nat) : Int) zf zf = s) := ⟨_, rfl⟩
          rw [HSC.out] at HC
          obtain ⟨sD, HSD⟩ : ∃ s, Hid (lvY n b 4 3 ((4 : Nat) : Int) zf zf = s) := ⟨_, rfl⟩
          have H4 : Hid (nextY sC b = (sC, 0, 7)) := by show _ = _; rw [← HSC.out]; exact lv_next_full hb
          have H5 : Hid (sealY sC b = (sD, 0)) := by show _ = _; rw [← HSC.out, ← HSD.out]; exact lv_seal hb
          have H6 : Hid (stY sD b = 3) := by show _ = _; rw [← HSD.out]; exact lv_st hb
          go_wp2_with fail
          refine (ynext_any (b : Int) HC.out).mono ?_
          rw [H4.out]
          rintro e W14 ⟨v14, fp14, rfl, he14, hc14, hs14⟩
          have S14 := Lib.hid (hs14.below HB.out HC.out.ge HB.out.size)
          have C14 := Lib.hid hc14
          have E14 := Lib.hid he14.at_
          clear he14
          clear hc14 hs14 HB HC
          go_wp2_with fail
          refine (err_num E14.out).mono ?_
          rintro e W15 ⟨rfl, hw15⟩
          subst hw15
          clear E14
          go_wp2_with fail
          refine (yseal_any (b : Int) C14.out).mono ?_
          rw [H5.out]
          rintro e W16 ⟨v16, fp16, rfl, he16, hc16, hs16⟩
          have S16 := Lib.hid (hs16.below S14.out C14.out.ge S14.out.size)
          have C16 := Lib.hid hc16
          obtain rfl := he16.nil
          clear he16
          clear hc16 hs16 S14 C14
          go_wp2_with fail
          refine (ystate_any (b : Int) C16.out).mono ?_
          rw [H6.out]
          rintro e W17 ⟨rfl, hb17⟩
          have S17 := Lib.hid (below_chain S16.out hb17.out)
          have C17 := Lib.hid (C16.out.since hb17.out)
          clear hb17 S16 C16
          go_wp2_with fail
          rw [← HSD.out, show zf = fN bs 0 from fN_zero.symm] at C17
          go_loopw [16, 17] (fun t16 t17 wr => ∃ (p : Nat) (sm : Bool) (d : Nat → Bool) (fp : Nat → Prop), t16 = .bool sm ∧ t17 = .int .i64 p ∧ p ≤ m ∧ Hid (someN bs p = sm) ∧ Hid (YardAt wr w.heap.size fp g (lvY n b 4 3 ((4 : Nat) : Int) (fN bs p) d)) ∧ Hid (Below w.heap.size w wr)) (fun _ t17 _ => m - (intOf t17).toNat)
          case atStart => exact ⟨0, false, _, _, rfl, rfl, Nat.zero_le _, rfl, C17, S17⟩
          clear C17 S17 HSD HSC HSB H1 H2 H4 H5 H6
          case round =>
            obtain ⟨Wc, rfl⟩ : ∃ Wc, Wc = wr := ⟨_, rfl⟩
            obtain ⟨p, sm, d, fp, rfl, rfl, hp, HSM, HC, HB⟩ := hrel
            have p0 : (0 : Int) ≤ (p : Int) := by omega
            by_cases hltp : p < m
            · skip
              have p1 : (p : Int) < (m : Int) := by omega
              obtain ⟨ad, rfl, hblk, hc⟩ := bool_at (HA.out.since HB.out) hltp
              obtain ⟨v, HV⟩ : ∃ v, Hid (bs.getD p false = v) := ⟨_, rfl⟩
              rw [HV.out] at hc
              have HSM2 : Hid (someN bs (p + 1) = (sm || v)) := by show _ = _; rw [someN_up, HSM.out, HV.out]
              cases v with
              | false =>
                rw [fN_no HV.out] at HC
                rw [Bool.or_false] at HSM2
                go_wp2_with fail
                go_roundw
                case rel => exact ⟨p + 1, sm, d, fp, rfl, by go_num, by omega, HSM2, HC, HB⟩
                case measure => simp [intOf]; omega
              | true =>
                obtain ⟨sp, HSP⟩ : ∃ s, Hid (lvY n b 4 3 ((4 : Nat) : Int) (fN bs p) d = s) := ⟨_, rfl⟩
                have H7 : Hid (∀ x, wantY sp b p x = (lvY n b 4 3 ((4 : Nat) : Int) (fN bs (p + 1)) (upF d p x), 0)) := fun x => by rw [← HSP.out, ← fN_up HV.out]; exact lv_want hb (by decide) (by omega) (by omega) (by unfold fN; simp) x
                rw [HSP.out] at HC
                rw [Bool.or_true] at HSM2
                go_wp2_with fail
                refine (yneed_any (b : Int) (p : Int) _ HC.out).mono ?_
                rw [H7.out]
                rintro e W18 ⟨v18, fp18, rfl, he18, hc18, hs18⟩
                have S18 := Lib.hid (hs18.below HB.out HC.out.ge HB.out.size)
                have C18 := Lib.hid hc18
                obtain rfl := he18.nil
                clear he18
                clear hc18 hs18 HB HC
                go_wp2_with fail
                go_roundw
                case rel => exact ⟨p + 1, true, _, fp18, rfl, by go_num, by omega, HSM2, C18, S18⟩
                case measure => simp [intOf]; omega
            · skip
              obtain rfl : p = m := by omega
              rw [fN_all HBL.out] at HC
              cases sm with
              | false =>
                have HNO : Hid (∀ q, bs.getD q false = false) := someN_no HBL.out HSM.out
                have hz : fD bs 0 = zf := by funext q; unfold fD zf; rw [HNO.out q]; simp
                rw [hz] at HC
                have hd := zf_dn HC.out.wf hb
                rw [lv_same (d' := zf) (fun _ _ => rfl) hd] at HC
                clear hz hd
                obtain ⟨sF, HSF⟩ : ∃ s, Hid (lvY n b 4 3 ((4 : Nat) : Int) zf zf = s) := ⟨_, rfl⟩
                rw [HSF.out] at HC
                have H8 : Hid (freeY sF b = (sA, 0)) := by show _ = _; rw [← HSF.out, ← HSA.out]; exact lv_free hb (Or.inr rfl) (fun _ _ => rfl)
                go_wp2_with fail
                refine (yfree_any (b : Int) HC.out).mono ?_
                rw [H8.out]
                rintro e W18 ⟨v18, fp18, rfl, he18, hc18, hs18⟩
                have S18 := Lib.hid (hs18.below HB.out HC.out.ge HB.out.size)
                have C18 := Lib.hid hc18
                obtain rfl := he18.nil
                clear he18
                clear hc18 hs18 HB HC
                go_wp2_with fail
                go_loopw [18] (fun t18 wr => ∃ (q : Nat) (fp : Nat → Prop), t18 = .int .i64 q ∧ q ≤ p ∧ Hid (YardAt wr w.heap.size fp g (sA)) ∧ Hid (Below w.heap.size w wr)) (fun t18 _ => p - (intOf t18).toNat)
                case atStart => exact ⟨0, _, rfl, Nat.zero_le _, C18, S18⟩
                clear C18 S18
                case round =>
                  obtain ⟨Wd, rfl⟩ : ∃ Wd, Wd = wr := ⟨_, rfl⟩
                  obtain ⟨q, fp, rfl, hq, HC, HB⟩ := hrel
                  have q0 : (0 : Int) ≤ (q : Int) := by omega
                  by_cases hltq : q < p
                  · skip
                    have q1 : (q : Int) < (p : Int) := by omega
                    obtain ⟨ad, rfl, hblk, hc⟩ := bool_at (HA.out.since HB.out) hltq
                    rw [HNO.out q] at hc
                    go_wp2_with fail
                    go_roundw
                    case rel => exact ⟨q + 1, fp, by go_num, by omega, HC, HB⟩
                    case measure => simp [intOf]; omega
                  · skip
                    have T1 : Hid (stY sA b = 1) := by show _ = _; rw [← HSA.out]; exact lv_st hb
                    have T2 : Hid (((dirtyY sA b : Nat) : Int) = 0) := by show _ = _; rw [← HSA.out]; exact congrArg (fun (k : Nat) => (k : Int)) (lv_dirty_zero (d := zf) hb (by decide) (fun _ _ => rfl))
                    have T3 : Hid ((listY sA 1).length = n) := by show _ = _; rw [← HSA.out]; exact lv_list_all hb
                    go_wp2_with fail
                    refine (ystate_any (b : Int) HC.out).mono ?_
                    rw [T1.out]
                    rintro e W19 ⟨rfl, hb19⟩
                    have S19 := Lib.hid (below_chain HB.out hb19.out)
                    have C19 := Lib.hid (HC.out.since hb19.out)
                    clear hb19 HB HC
                    go_wp2_with fail
                    refine (ydirty_any (b : Int) C19.out).mono ?_
                    rw [T2.out]
                    rintro e W20 ⟨rfl, hb20⟩
                    have S20 := Lib.hid (below_chain S19.out hb20.out)
                    have C20 := Lib.hid (C19.out.since hb20.out)
                    clear hb20 S19 C19
                    go_wp2_with fail
                    refine (ylist_any 1 C20.out).mono ?_
                    skip
                    rintro e W21 ⟨A21, n21, c21, rfl, hi21, hb21⟩
                    obtain rfl : n = n21 := T3.out.symm.trans hi21.out.len
                    have S21 := Lib.hid (below_chain S20.out hb21.out)
                    have C21 := Lib.hid (C20.out.since hb21.out)
                    clear hb21 hi21 S20 C20
                    go_wp2_with fail
                    go_roundw
                    case rel => exact ⟨i + 1, _, by go_num, by omega, C21, S21⟩
                    case measure => simp [intOf]; omega
              | true =>
                obtain ⟨sF, HSF⟩ : ∃ s, Hid (lvY n b 4 3 ((4 : Nat) : Int) (fD bs 0) d = s) := ⟨_, rfl⟩
                rw [HSF.out] at HC
                have H8 : Hid (freeY sF b = (sF, 9)) := by
                  show _ = _
                  obtain ⟨q, h1, h2⟩ := someN_yes HSM.out
                  rw [← HSF.out]
                  exact lv_free_no (q := q) hb (by decide) (by omega) (by unfold fD; rw [h2]; simp)
                go_wp2_with fail
                refine (yfree_any (b : Int) HC.out).mono ?_
                rw [H8.out]
                rintro e W18 ⟨v18, fp18, rfl, he18, hc18, hs18⟩
                have S18 := Lib.hid (hs18.below HB.out HC.out.ge HB.out.size)
                have C18 := Lib.hid hc18
                have E18 := Lib.hid he18.at_
                clear he18
                clear hc18 hs18 HB HC
                obtain ⟨xE18, rfl⟩ := (E18.out.wrong (show (9 : Int) ≠ 0 by decide)).ne
                clear E18
                go_wp2_with fail
                rw [← HSF.out] at C18
                go_loopw [18] (fun t18 wr => ∃ (q : Nat) (d : Nat → Bool) (fp : Nat → Prop), t18 = .int .i64 q ∧ q ≤ p ∧ Hid (YardAt wr w.heap.size fp g (lvY n b 4 3 ((4 : Nat) : Int) (fD bs q) d)) ∧ Hid (Below w.heap.size w wr)) (fun t18 _ => p - (intOf t18).toNat)
                case atStart => exact ⟨0, _, _, rfl, Nat.zero_le _, C18, S18⟩
                clear C18 S18 HSF H8
                case round =>
                  obtain ⟨Wd, rfl⟩ : ∃ Wd, Wd = wr := ⟨_, rfl⟩
                  obtain ⟨q, d, fp, rfl, hq, HC, HB⟩ := hrel
                  have q0 : (0 : Int) ≤ (q : Int) := by omega
                  by_cases hltq : q < p
                  · skip
                    have q1 : (q : Int) < (p : Int) := by omega
                    obtain ⟨ad, rfl, hblk, hc⟩ := bool_at (HA.out.since HB.out) hltq
                    obtain ⟨v, HV⟩ : ∃ v, Hid (bs.getD q false = v) := ⟨_, rfl⟩
                    rw [HV.out] at hc
                    cases v with
                    | false =>
                      rw [fD_no HV.out] at HC
                      go_wp2_with fail
                      go_roundw
                      case rel => exact ⟨q + 1, d, fp, by go_num, by omega, HC, HB⟩
                      case measure => simp [intOf]; omega
                    | true =>
                      obtain ⟨sp, HSP⟩ : ∃ s, Hid (lvY n b 4 3 ((4 : Nat) : Int) (fD bs q) d = s) := ⟨_, rfl⟩
                      have H9 : Hid (dropY sp b q = (lvY n b 4 3 ((4 : Nat) : Int) (fD bs (q + 1)) (upF d q false), 0)) := by show _ = _; rw [← HSP.out, ← fD_up]; exact lv_drop hb (by decide) (by omega) (by unfold fD; rw [HV.out]; simp)
                      rw [HSP.out] at HC
                      go_wp2_with fail
                      refine (ydrop_any (b : Int) (q : Int) HC.out).mono ?_
                      rw [H9.out]
                      rintro e W19 ⟨v19, fp19, rfl, he19, hc19, hs19⟩
                      have S19 := Lib.hid (hs19.below HB.out HC.out.ge HB.out.size)
                      have C19 := Lib.hid hc19
                      obtain rfl := he19.nil
                      clear he19
                      clear hc19 hs19 HB HC
                      go_wp2_with fail
                      go_roundw
                      case rel => exact ⟨q + 1, _, fp19, by go_num, by omega, C19, S19⟩
                      case measure => simp [intOf]; omega
                  · skip
                    obtain rfl : q = p := by omega
                    rw [fD_all HBL.out] at HC
                    have hd := zf_dn HC.out.wf hb
                    rw [lv_same (d' := zf) (fun _ _ => rfl) hd] at HC
                    clear hd
                    obtain ⟨sF, HSF⟩ : ∃ s, Hid (lvY n b 4 3 ((4 : Nat) : Int) zf zf = s) := ⟨_, rfl⟩
                    rw [HSF.out] at HC
                    have H8 : Hid (freeY sF b = (sA, 0)) := by show _ = _; rw [← HSF.out, ← HSA.out]; exact lv_free hb (Or.inr rfl) (fun _ _ => rfl)
                    go_wp2_with fail
                    refine (yfree_any (b : Int) HC.out).mono ?_
                    rw [H8.out]
                    rintro e W19 ⟨v19, fp19, rfl, he19, hc19, hs19⟩
                    have S19 := Lib.hid (hs19.below HB.out HC.out.ge HB.out.size)
                    have C19 := Lib.hid hc19
                    obtain rfl := he19.nil
                    clear he19
                    clear hc19 hs19 HB HC
                    have T1 : Hid (stY sA b = 1) := by show _ = _; rw [← HSA.out]; exact lv_st hb
                    have T2 : Hid (((dirtyY sA b : Nat) : Int) = 0) := by show _ = _; rw [← HSA.out]; exact congrArg (fun (k : Nat) => (k : Int)) (lv_dirty_zero (d := zf) hb (by decide) (fun _ _ => rfl))
                    have T3 : Hid ((listY sA 1).length = n) := by show _ = _; rw [← HSA.out]; exact lv_list_all hb
                    go_wp2_with fail
                    refine (ystate_any (b : Int) C19.out).mono ?_
                    rw [T1.out]
                    rintro e W20 ⟨rfl, hb20⟩
                    have S20 := Lib.hid (below_chain S19.out hb20.out)
                    have C20 := Lib.hid (C19.out.since hb20.out)
                    clear hb20 S19 C19
                    go_wp2_with fail
                    refine (ydirty_any (b : Int) C20.out).mono ?_
                    rw [T2.out]
                    rintro e W21 ⟨rfl, hb21⟩
                    have S21 := Lib.hid (below_chain S20.out hb21.out)
                    have C21 := Lib.hid (C20.out.since hb21.out)
                    clear hb21 S20 C20
                    go_wp2_with fail
                    refine (ylist_any 1 C21.out).mono ?_
                    skip
                    rintro e W22 ⟨A22, n22, c22, rfl, hi22, hb22⟩
                    obtain rfl : n = n22 := T3.out.symm.trans hi22.out.len
                    have S22 := Lib.hid (below_chain S21.out hb22.out)
                    have C22 := Lib.hid (C21.out.since hb22.out)
                    clear hb22 hi22 S21 C21
                    go_wp2_with fail
                    go_roundw
                    case rel => exact ⟨i + 1, _, by go_num, by omega, C22, S22⟩
                    case measure => simp [intOf]; omega
    · skip
      obtain ⟨sR, HSR⟩ : ∃ s, Hid (lvY n b 4 4 0 zf zf = s) := ⟨_, rfl⟩
      have H1 : Hid (retireY sA b = (sR, 0)) := by show _ = _; rw [← HSA.out, ← HSR.out]; exact lv_retire hb (by decide) (by decide)
      have H2 : Hid (retireY sR b = (sR, 9)) := by show _ = _; rw [← HSR.out]; exact lv_retire_no hb
      have H3 : Hid (openY sR b = (sR, 9)) := by show _ = _; rw [← HSR.out]; exact lv_open_no hb (by decide) (by decide)
      have H4 : Hid (freeY sR b = (sR, 9)) := by show _ = _; rw [← HSR.out]; exact lv_free_bad hb rfl
      have H5 : Hid (listY sR 4 = [(b : Int)]) := by show _ = _; rw [← HSR.out]; exact lv_list_bad hb
      have H6 : Hid ((listY sR 1).length = n - 1) := by show _ = _; rw [← HSR.out]; exact lv_list_ne hb
      go_wp2_with fail
      refine (yretire_any (b : Int) HC.out).mono ?_
      rw [H1.out]
      rintro e W301 ⟨v301, fp301, rfl, he301, hc301, hs301⟩
      have S301 := Lib.hid (hs301.below HB.out HC.out.ge HB.out.size)
      have C301 := Lib.hid hc301
      obtain rfl := he301.nil
      clear he301
      clear hc301 hs301 HB HC
      go_wp2_with fail
      refine (yretire_any (b : Int) C301.out).mono ?_
      rw [H2.out]
      rintro e W302 ⟨v302, fp302, rfl, he302, hc302, hs302⟩
      have S302 := Lib.hid (hs302.below S301.out C301.out.ge S301.out.size)
      have C302 := Lib.hid hc302
      have E302 := Lib.hid he302.at_
      clear he302
      clear hc302 hs302 S301 C301
      go_wp2_with fail
      refine (err_num E302.out).mono ?_
      rintro e W303 ⟨rfl, hw303⟩
      subst hw303
      clear E302
      go_wp2_with fail
      refine (yopen_any (b : Int) C302.out).mono ?_
      rw [H3.out]
      rintro e W304 ⟨v304, fp304, rfl, he304, hc304, hs304⟩
      have S304 := Lib.hid (hs304.below S302.out C302.out.ge S302.out.size)
      have C304 := Lib.hid hc304
      have E304 := Lib.hid he304.at_
      clear he304
      clear hc304 hs304 S302 C302
      go_wp2_with fail
      refine (err_num E304.out).mono ?_
      rintro e W305 ⟨rfl, hw305⟩
      subst hw305
      clear E304
      go_wp2_with fail
      refine (yfree_any (b : Int) C304.out).mono ?_
      rw [H4.out]
      rintro e W306 ⟨v306, fp306, rfl, he306, hc306, hs306⟩
      have S306 := Lib.hid (hs306.below S304.out C304.out.ge S304.out.size)
      have C306 := Lib.hid hc306
      have E306 := Lib.hid he306.at_
      clear he306
      clear hc306 hs306 S304 C304
      go_wp2_with fail
      refine (err_num E306.out).mono ?_
      rintro e W307 ⟨rfl, hw307⟩
      subst hw307
      clear E306
      go_wp2_with fail
      refine (ylist_any 4 C306.out).mono ?_
      rw [H5.out]
      rintro e W308 ⟨A308, n308, c308, rfl, hi308, hb308⟩
      obtain rfl : 1 = n308 := hi308.out.len
      have I308 := Lib.hid (RestK.new hi308.out C306.out.lt)
      have S308 := Lib.hid (below_chain S306.out hb308.out)
      have C308 := Lib.hid (C306.out.since hb308.out)
      clear hb308 hi308 S306 C306
      go_wp2_with fail
      have N309 : Hid (intK.Lie (W308.alloc (.cells #[.int .i64 (b : Int)] 3)) (W308.alloc (.cells #[.int .i64 (b : Int)] 3)).heap.size (some ⟨W308.heap.size, 0, none⟩) 1 [(b : Int)]) := Kind.new1 (K := intK) W308 (b : Int) ⟨by omega, by omega⟩ _ rfl
      have hb309 : Below W308.heap.size W308 (W308.alloc (.cells #[.int .i64 (b : Int)] 3)) := later_alloc _ _
      have S309 := Lib.hid (below_chain S308.out hb309)
      have C309 := Lib.hid (C308.out.since hb309)
      have I309 := Lib.hid (I308.out.since hb309)
      clear hb309 S308 C308 I308
      refine (sameints_yes _ _ 1 _ _ [(b : Int)] _ (by omega) I309.out.row.lie N309.out).mono ?_
      rintro e W310 ⟨rfl, hb310⟩
      have S310 := Lib.hid (below_chain S309.out hb310)
      have C310 := Lib.hid (C309.out.since hb310)
      clear hb310 N309 I309 S309 C309
      go_wp2_with fail
      refine (ylist_any 1 C310.out).mono ?_
      rintro e W311 ⟨A311, n311, c311, rfl, hi311, hb311⟩
      have hn311 : (n311 : Int) = (n : Int) - 1 := by have h1 := hi311.out.len; rw [H6.out] at h1; omega
      have S311 := Lib.hid (below_chain S310.out hb311.out)
      have C311 := Lib.hid (C310.out.since hb311.out)
      clear hb311 hi311 S310 C310
      have hq311 : ((n311 : Int) == (n : Int) - 1) = true := by simp; omega
      go_wp2_with fail
      refine (yopen_nil 0 _).mono ?_
      rintro e W312 ⟨v312, rfl, he312, hb312⟩
      have E312 := Lib.hid he312
      have S312 := Lib.hid (below_chain S311.out hb312)
      have C312 := Lib.hid (C311.out.since hb312)
      clear hb312 he312 S311 C311
      go_wp2_with fail
      refine (err_num E312.out).mono ?_
      rintro e W313 ⟨rfl, hw313⟩
      subst hw313
      clear E312
      go_wp2_with fail
      refine (ystate_nil 0 _).mono ?_
      rintro e W314 ⟨rfl, hb314⟩
      have S314 := Lib.hid (below_chain S312.out hb314.out)
      have C314 := Lib.hid (C312.out.since hb314.out)
      clear hb314 S312 C312
      go_wp2_with fail
      refine (ylist_nil 1 _).mono ?_
      rintro e W315 ⟨rfl, hb315⟩
      have S315 := Lib.hid (below_chain S314.out hb315.out)
      have C315 := Lib.hid (C314.out.since hb315.out)
      clear hb315 S314 C314
      go_wp2_with fail
      refine (yawake_any _).mono ?_
      rintro e W316 ⟨rfl, hb316⟩
      have S316 := Lib.hid (below_chain S315.out hb316.out)
      go_wp2_with fail
      go_ret
      exact ⟨rfl, S316⟩
end Go.Proofs.Ytmfpelgkjgpfmaa
