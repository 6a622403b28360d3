/- BackTurns: true, whatever its arguments are. Conditions: the lists' cells. -/
import Derived.Test.YtiojnpoefbnjoaaBackAwake
import Derived.Test.YtiojnpoefbnjoaaBackCells14
import Derived.Test.YtiojnpoefbnjoaaChTwo
import Derived.Test.YtiojnpoefbnjoaaRunBin
set_option linter.unusedVariables false
set_option linter.unusedSimpArgs false
namespace Go.Proofs.Ytiojnpoefbnjoaa
open Go.RowKit

theorem int_word : intK.T ≠ wordK.T := by decide
theorem rows_apart {α β : Type} {K : Kind α} {M : Kind β} {w : World} {base n c m c' : Nat} {A A' : Option Addr} {vs : List α} {us : List β} (hT : K.T ≠ M.T) (h : K.Row w base A n c vs) (k : M.Row w base A' m c' us) : ∀ b ∈ blk A, b ∉ blk A' := fun b h1 h2 => by
  obtain ⟨x, hx⟩ := Row.typed h b h1
  obtain ⟨y, hy⟩ := Row.typed k b h2
  exact hT (other_type hx hy)
/-- Behind both appends: where the rows lie. -/
theorem ChJ.where_ {α β : Type} {K : Kind α} {M : Kind β} {t : P2 K M} {fs : List Bool} {vs : List Value} {W : World} (h : ChJ t fs vs W) (h1 : fs.getD 1 false = true) (h3 : fs.getD 3 false = true) (h4 : fs.getD 4 false = true) (h5 : fs.getD 5 false = true) :
    ∃ A1 c1 A2 c2, vs.getD 4 undef = .slice A1 (t.n + 1) c1 ∧ vs.getD 5 undef = .slice A2 (t.m + 1) c2 ∧ K.Row W t.base A1 (t.n + 1) c1 (t.us1 ++ [t.e1]) ∧ M.Row W t.base A2 (t.m + 1) c2 (t.us2 ++ [t.e2]) ∧ (∀ b ∈ blk A1, t.set b ∨ t.WD.heap.size ≤ b) ∧ ∀ b ∈ blk A2, t.set b ∨ t.WD.heap.size ≤ b := by
  obtain ⟨f1, f2, k1, k2, k3, g1, g2⟩ := h.ex
  obtain ⟨A1, c1, e1, r1, b1⟩ := k1.new h1
  obtain ⟨A2, c2, e2, r2, b2⟩ := k2.new h3
  exact ⟨A1, c1, A2, c2, (h.s1 h4).trans e1, (h.s2 h5).trans e2, r1, r2, fun b hb => g1 b (b1 b hb), fun b hb => g2 b (b2 b hb)⟩
/-- What rows must be apart from. -/
def Or3 (fp : Nat → Prop) (q6 q7 : Nat) : Nat → Prop := fun b => fp b ∨ b = q6 ∨ b = q7
set_option maxHeartbeats 32000000 in
set_option maxRecDepth 20000 in
theorem turns_law (A : Option Addr) (n c : Nat) (ps : List Int) (A' : Option Addr) (m c' : Nat) (xs : List Int) (w : World) (hn : n ≤ 9223372036854775807) (hA : intK.Lie w w.heap.size A n ps) (hm : m ≤ 9223372036854775807) (hX : wordK.Lie w w.heap.size A' m xs) :
    Calls Try.prog 5 #[.slice A n c, .slice A' m c'] w (SaysB w true) := by
  by_cases h40 : 40 < n
  · clear hA hX
    go_enter Try.func5, Try.ntmps5
    go_wp2_with fail
    refine (bkawake_any _).mono ?_
    rintro e W1 ⟨rfl, hb⟩
    go_wp2_with fail
    go_ret
    exact ⟨rfl, hb⟩
  by_cases h41 : 40 < m
  · clear hA hX
    go_enter Try.func5, Try.ntmps5
    go_wp2_with fail
    refine (bkawake_any _).mono ?_
    rintro e W1 ⟨rfl, hb⟩
    go_wp2_with fail
    go_ret
    exact ⟨rfl, hb⟩
  have hn40 : n ≤ 40 := by omega
  have hm40 : m ≤ 40 := by omega
  have HA := Lib.hid hA
  have HX := Lib.hid hX
  clear hA hX h40 h41 hn hm
  go_enter Try.func5, Try.ntmps5
  go_wp2_with fail
  refine (bknew_any 8 _).mono ?_
  rw [if_pos (show mayBk 8 = true from rfl), show freshBk (8 : Int).toNat = tnB ps xs 0 from rfl]
  rintro e W3 ⟨g, fp0, rfl, hc0, hb0⟩
  have C3 := Lib.hid hc0
  have S3 := Lib.hid hb0
  clear hc0 hb0
  go_wp2_with fail
  have P6 : Hid (RestC fp0 (W3.alloc (.cells (boolsC (hasBk (tnB ps xs 0))) 54)) W3.heap.size (boolsC (hasBk (tnB ps xs 0))) 54) := RestC.new W3 _ _ C3.out.lt
  have b6 := later_alloc W3 (.cells (boolsC (hasBk (tnB ps xs 0))) 54)
  obtain ⟨V1, HV1⟩ : ∃ V1 : World, Hid (V1 = W3.alloc (.cells (boolsC (hasBk (tnB ps xs 0))) 54)) := ⟨_, rfl⟩
  rw [← HV1.out] at P6 b6
  have S11 := Lib.hid (below_chain S3.out b6)
  have C11 := Lib.hid (C3.out.since b6)
  have P7 : Hid (RestC fp0 (V1.alloc (.cells (wordsC (numBk (tnB ps xs 0))) 55)) V1.heap.size (wordsC (numBk (tnB ps xs 0))) 55) := RestC.new V1 _ _ C11.out.lt
  have b7 := later_alloc V1 (.cells (wordsC (numBk (tnB ps xs 0))) 55)
  have P6b := Lib.hid (P6.out.since b7)
  obtain ⟨q6, HQ6⟩ : ∃ q6, Hid (W3.heap.size = q6) := ⟨_, rfl⟩
  obtain ⟨q7, HQ7⟩ : ∃ q7, Hid (V1.heap.size = q7) := ⟨_, rfl⟩
  have hq67 : q6 ≠ q7 := by rw [← HQ6.out, ← HQ7.out]; have := P6.out.lt; omega
  have HQA : w.heap.size ≤ W3.heap.size := S3.out.size
  have HQB : w.heap.size ≤ V1.heap.size := S11.out.size
  clear S3 C3
  have S12 := Lib.hid (below_chain S11.out b7)
  have C12 := Lib.hid (C11.out.since b7)
  have HQ7b : Hid (W3.heap.size + 1 = q7) := by show _ = _; rw [← HQ7.out, HV1.out]; simp
  obtain ⟨V2, HV2⟩ : ∃ V2 : World, Hid (V2 = V1.alloc (.cells (wordsC (numBk (tnB ps xs 0))) 55)) := ⟨_, rfl⟩
  rw [show (W3.alloc (.cells #[.bool false, .bool false, .bool false, .bool false, .bool false, .bool false, .bool false, .bool false] 54)) = V1 from HV1.out.symm, show (V1.alloc (.cells #[.int .u64 0, .int .u64 0, .int .u64 0, .int .u64 0, .int .u64 0, .int .u64 0, .int .u64 0, .int .u64 0] 55)) = V2 from HV2.out.symm, HQ7b.out, HQ6.out]
  rw [← HV2.out] at P7 P6b S12 C12
  rw [HQ7.out] at P7
  rw [HQ6.out] at P6b
  clear S11 C11 P6
  have hq6w : w.heap.size ≤ q6 := by rw [← HQ6.out]; exact HQA
  have hq7w : w.heap.size ≤ q7 := by rw [← HQ7.out]; exact HQB
  clear HQA HQB
  go_loopw [8] (fun t8 wr => ∃ (i : Nat) (fp : Nat → Prop), t8 = .int .i64 i ∧ i ≤ n ∧ i ≤ m ∧ Hid (BkAt wr w.heap.size fp g (tnB ps xs i)) ∧ Hid (RestC fp wr q6 (boolsC (hasBk (tnB ps xs i))) 54) ∧ Hid (RestC fp wr q7 (wordsC (numBk (tnB ps xs i))) 55) ∧ Hid (Below w.heap.size w wr)) (fun t8 _ => n - (intOf t8).toNat)
  case atStart => exact ⟨0, fp0, rfl, Nat.zero_le _, Nat.zero_le _, C12, P6b, P7, S12⟩
  clear C12 S12 P6b P7 b6 b7 HV1 HV2 HQ6 HQ7 HQ7b
  case round =>
    obtain ⟨Wa, rfl⟩ : ∃ Wa, Wa = wr := ⟨_, rfl⟩
    obtain ⟨i, fp, rfl, hi, him, HC, H6, H7, HB⟩ := hrel
    have i0 : (0 : Int) ≤ (i : Int) := by omega
    have HSL := Lib.hid (tnB_len ps xs i)
    by_cases hlt : i < n
    · by_cases hlm : i < m
      · skip
        have i1 : (i : Int) < (n : Int) := by omega
        have i2 : (i : Int) < (m : Int) := by omega
        obtain ⟨ad, had, hblk, hc⟩ := int_at (HA.out.since HB.out) hlt
        obtain ⟨ax, hax, hblkx, hcx⟩ := word_at HX.out hlm
        subst had hax
        have HAT := Lib.hid (tnP_cast ps i)
        obtain ⟨y, HY⟩ : ∃ y, Hid (ps.getD i 0 = y) := ⟨_, rfl⟩
        obtain ⟨v, HV⟩ : ∃ v, Hid (xs.getD i 0 = v) := ⟨_, rfl⟩
        rw [HY.out] at hc HAT
        rw [HV.out] at hcx
        have hv : 0 ≤ v ∧ v ≤ 18446744073709551615 := by rw [← HV.out]; exact HX.out.wf i
        have HCX : Hid (∀ W, Below w.heap.size w W → W.cell? (ax.add i) = some (.int .u64 v)) := fun W h => by
          obtain ⟨ad2, e2, _, h2⟩ := word_at (HX.out.since h) hlm
          obtain rfl := Option.some.inj e2
          rw [HV.out] at h2; exact h2
        have hp8 := tnP_lt ps i
        have HS2 : Hid ((tnB ps xs i).set (tnP ps i) (some v) = tnB ps xs (i + 1)) := by show _ = _; rw [← HV.out]; rfl
        obtain ⟨p, HPN⟩ : ∃ p : Nat, Hid (tnP ps i = p) := ⟨_, rfl⟩
        rw [HPN.out] at HAT hp8 HS2
        have p0 : (0 : Int) ≤ (p : Int) := by omega
        have p8 : (p : Int) < 8 := by omega
        obtain ⟨s, HSI⟩ : ∃ s, Hid (tnB ps xs i = s) := ⟨_, rfl⟩
        rw [HSI.out] at HC H6 H7 HS2 HSL
        have g6 : Wa.cell? ⟨q6, p, none⟩ = some (.bool (s.getD p none).isSome) := (H6.out.cell p).trans ((boolsC_at (by rw [hasBk_len, HSL.out]; exact hp8)).trans (by rw [hasBk_at]))
        clear hcx
        go_wp2_with fail
        refine (low_any y 8 (by omega) (by omega) _).mono ?_
        rw [HAT.out]
        rintro e w' ⟨rfl, rfl⟩
        clear hc
        cases HO : s.getD p none with
        | none =>
          rw [HO] at g6
          have g6' : Wa.cell? ⟨q6, p, none⟩ = some (.bool false) := g6
          clear g6
          have E3 : Hid (setBk s (p : Int) v = (s.set p (some v), 0)) := set_at (by rw [HSL.out]; exact hp8) HO
          rw [HS2.out] at E3
          have hcx := HCX.out _ HB.out
          clear HO
          go_wp2_with fail
          clear g6' hcx
          refine (bkset_any (p : Int) v hv.1 hv.2 HC.out).mono ?_
          rw [E3.out]
          rintro e W22 ⟨v22, fp22, rfl, he22, hc22, hs22⟩
          have S22 := Lib.hid (hs22.below HB.out HC.out.ge HC.out.base_le)
          have P22 := Lib.hid (H6.out.step hs22)
          have Q22 := Lib.hid (H7.out.step hs22)
          have C22 := Lib.hid hc22
          obtain rfl := he22.nil
          clear he22 hc22 hs22 HC HB H6 H7 E3
          have hcx := HCX.out _ S22.out
          have hb6 : Below w.heap.size w (W22.setCell ⟨q6, p, none⟩ (.bool true)) := S22.out.setCell hq6w _
          have hcx6 := HCX.out _ hb6
          have g6 : W22.cell? ⟨q6, p, none⟩ = some (.bool ((hasBk s).getD p false)) := (P22.out.cell p).trans (boolsC_at (by rw [hasBk_len, HSL.out]; exact hp8))
          have g7 : W22.cell? ⟨q7, p, none⟩ = some (.int .u64 ((numBk s).getD p 0)) := (Q22.out.cell p).trans (wordsC_at (by rw [numBk_len, HSL.out]; exact hp8))
          obtain ⟨u6, HU6⟩ : ∃ u : Value, Hid (u = .bool ((hasBk s).getD p false)) := ⟨_, rfl⟩
          obtain ⟨u7, HU7⟩ : ∃ u : Value, Hid (u = .int .u64 ((numBk s).getD p 0)) := ⟨_, rfl⟩
          rw [← HU6.out] at g6
          rw [← HU7.out] at g7
          have f6 := P22.out.free p
          have f7 := Q22.out.free p
          have n6 := (P22.out.put p (.bool true)).other hq67 p (.int .u64 v)
          have n7 := (Q22.out.other (c := q6) (fun e => hq67 e.symm) p (.bool true)).put p (.int .u64 v)
          rw [boolsC_set, hasBk_set (a := v), HS2.out] at n6
          rw [wordsC_set, numBk_set, HS2.out] at n7
          have m1 : Below w.heap.size w ((W22.setCell ⟨q6, p, none⟩ (.bool true)).setCell ⟨q7, p, none⟩ (.int .u64 v)) := ((S22.out.setCell hq6w _).setCell hq7w _)
          have mt : Turn (fun b => b = q6 ∨ b = q7) W22 ((W22.setCell ⟨q6, p, none⟩ (.bool true)).setCell ⟨q7, p, none⟩ (.int .u64 v)) := (Turn.of_setCell (fp := fun b => b = q6 ∨ b = q7) ⟨q6, p, none⟩ (.bool true) (Or.inl rfl)).trans (Turn.of_setCell (fp := fun b => b = q6 ∨ b = q7) ⟨q7, p, none⟩ (.int .u64 v) (Or.inr rfl)) fun b hb => Or.inl hb
          have m2 := C22.out.keep mt (fun b hb hf => by rcases hb with rfl | rfl; exact P22.out.safe hf; exact Q22.out.safe hf)
          have N6 := Lib.hid n6
          have N7 := Lib.hid n7
          have MB := Lib.hid m1
          have MC := Lib.hid m2
          clear n6 n7 m1 m2 mt P22 Q22 S22 C22 HU6 HU7 hb6
          go_wp2_with fail
          go_region
          obtain ⟨W9, HW9⟩ : ∃ W9, Hid (W9 = (W22.setCell ⟨q6, p, none⟩ (.bool true)).setCell ⟨q7, p, none⟩ (.int .u64 v)) := ⟨_, rfl⟩
          rw [← HW9.out] at N6 N7 MB MC ⊢
          have D9 : Below W9.heap.size W9 W9.drew := (Below.refl _ _).drew
          have N6a := Lib.hid (N6.out.since D9)
          have N7a := Lib.hid (N7.out.since D9)
          have MCa := Lib.hid (MC.out.since D9)
          have MBa := Lib.hid (below_chain MB.out D9)
          go_wp2_with fail
          go_roundw
          case rel => exact ⟨i + 1, fp22, by go_num, by omega, by omega, MCa, N6a, N7a, MBa⟩
          case measure => simp [intOf]; omega
        | some o =>
          rw [HO] at g6
          have g6' : Wa.cell? ⟨q6, p, none⟩ = some (.bool true) := g6
          clear g6
          have E2 : Hid (clearBk s (p : Int) = (s.set p none, 0)) := clear_at (by rw [HSL.out]; exact hp8) (by rw [HO]; rfl)
          have E3 : Hid (setBk (s.set p none) (p : Int) v = ((s.set p none).set p (some v), 0)) := set_at (by rw [List.length_set, HSL.out]; exact hp8) (set_none (by rw [HSL.out]; exact hp8))
          rw [set_again, HS2.out] at E3
          clear HO
          go_wp2_with fail
          clear g6'
          refine (bkclear_any (p : Int) HC.out).mono ?_
          rw [E2.out]
          rintro e W21 ⟨v21, fp21, rfl, he21, hc21, hs21⟩
          have S21 := Lib.hid (hs21.below HB.out HC.out.ge HC.out.base_le)
          have P21 := Lib.hid (H6.out.step hs21)
          have Q21 := Lib.hid (H7.out.step hs21)
          have C21 := Lib.hid hc21
          obtain rfl := he21.nil
          clear he21 hc21 hs21 HC HB H6 H7 E2
          have hcx := HCX.out _ S21.out
          go_wp2_with fail
          clear hcx
          refine (bkset_any (p : Int) v hv.1 hv.2 C21.out).mono ?_
          rw [E3.out]
          rintro e W22 ⟨v22, fp22, rfl, he22, hc22, hs22⟩
          have S22 := Lib.hid (hs22.below S21.out C21.out.ge S21.out.size)
          have P22 := Lib.hid (P21.out.step hs22)
          have Q22 := Lib.hid (Q21.out.step hs22)
          have C22 := Lib.hid hc22
          obtain rfl := he22.nil
          clear he22 hc22 hs22 C21 S21 P21 Q21 E3
          have hcx := HCX.out _ S22.out
          have hb6 : Below w.heap.size w (W22.setCell ⟨q6, p, none⟩ (.bool true)) := S22.out.setCell hq6w _
          have hcx6 := HCX.out _ hb6
          have g6 : W22.cell? ⟨q6, p, none⟩ = some (.bool ((hasBk s).getD p false)) := (P22.out.cell p).trans (boolsC_at (by rw [hasBk_len, HSL.out]; exact hp8))
          have g7 : W22.cell? ⟨q7, p, none⟩ = some (.int .u64 ((numBk s).getD p 0)) := (Q22.out.cell p).trans (wordsC_at (by rw [numBk_len, HSL.out]; exact hp8))
          obtain ⟨u6, HU6⟩ : ∃ u : Value, Hid (u = .bool ((hasBk s).getD p false)) := ⟨_, rfl⟩
          obtain ⟨u7, HU7⟩ : ∃ u : Value, Hid (u = .int .u64 ((numBk s).getD p 0)) := ⟨_, rfl⟩
          rw [← HU6.out] at g6
          rw [← HU7.out] at g7
          have f6 := P22.out.free p
          have f7 := Q22.out.free p
          have n6 := (P22.out.put p (.bool true)).other hq67 p (.int .u64 v)
          have n7 := (Q22.out.other (c := q6) (fun e => hq67 e.symm) p (.bool true)).put p (.int .u64 v)
          rw [boolsC_set, hasBk_set (a := v), HS2.out] at n6
          rw [wordsC_set, numBk_set, HS2.out] at n7
          have m1 : Below w.heap.size w ((W22.setCell ⟨q6, p, none⟩ (.bool true)).setCell ⟨q7, p, none⟩ (.int .u64 v)) := ((S22.out.setCell hq6w _).setCell hq7w _)
          have mt : Turn (fun b => b = q6 ∨ b = q7) W22 ((W22.setCell ⟨q6, p, none⟩ (.bool true)).setCell ⟨q7, p, none⟩ (.int .u64 v)) := (Turn.of_setCell (fp := fun b => b = q6 ∨ b = q7) ⟨q6, p, none⟩ (.bool true) (Or.inl rfl)).trans (Turn.of_setCell (fp := fun b => b = q6 ∨ b = q7) ⟨q7, p, none⟩ (.int .u64 v) (Or.inr rfl)) fun b hb => Or.inl hb
          have m2 := C22.out.keep mt (fun b hb hf => by rcases hb with rfl | rfl; exact P22.out.safe hf; exact Q22.out.safe hf)
          have N6 := Lib.hid n6
          have N7 := Lib.hid n7
          have MB := Lib.hid m1
          have MC := Lib.hid m2
          clear n6 n7 m1 m2 mt P22 Q22 S22 C22 HU6 HU7 hb6
          go_wp2_with fail
          go_region
          obtain ⟨W9, HW9⟩ : ∃ W9, Hid (W9 = (W22.setCell ⟨q6, p, none⟩ (.bool true)).setCell ⟨q7, p, none⟩ (.int .u64 v)) := ⟨_, rfl⟩
          rw [← HW9.out] at N6 N7 MB MC ⊢
          have D9 : Below W9.heap.size W9 W9.drew := (Below.refl _ _).drew
          have N6a := Lib.hid (N6.out.since D9)
          have N7a := Lib.hid (N7.out.since D9)
          have MCa := Lib.hid (MC.out.since D9)
          have MBa := Lib.hid (below_chain MB.out D9)
          go_wp2_with fail
          go_roundw
          case rel => exact ⟨i + 1, fp22, by go_num, by omega, by omega, MCa, N6a, N7a, MBa⟩
          case measure => simp [intOf]; omega
      · obtain rfl : i = m := by omega
        obtain ⟨s, HSI⟩ : ∃ s, Hid (tnB ps xs i = s) := ⟨_, rfl⟩
        rw [HSI.out] at HC H6 H7 HSL
        clear HSI HA HX
        go_wp2_with fail
        clear hlt
        go_loopw [10, 11, 12] (fun t10 t11 t12 wr => ∃ (k j1 : Nat) (A1 : Option Addr) (c1 j2 : Nat) (A2 : Option Addr) (c2 : Nat), t10 = .slice A1 j1 c1 ∧ t11 = .slice A2 j2 c2 ∧ t12 = .int .i64 k ∧ k ≤ 8 ∧ j1 ≤ k ∧ j2 ≤ k ∧ Hid (BkAt wr w.heap.size fp g s) ∧ Hid (RestC fp wr q6 (boolsC (hasBk s)) 54) ∧ Hid (RestC fp wr q7 (wordsC (numBk s)) 55) ∧ Hid (RestK intK (Or3 fp q6 q7) wr w.heap.size A1 j1 c1 (pagesN s k)) ∧ Hid (RestK wordK (Or3 fp q6 q7) wr w.heap.size A2 j2 c2 (ownsN s k)) ∧ Hid (Below w.heap.size w wr)) (fun _ _ t12 _ => 8 - (intOf t12).toNat)
        case atStart => exact ⟨0, 0, none, 0, 0, none, 0, rfl, rfl, rfl, by omega, by omega, by omega, HC, H6, H7, ⟨Kind.Row.none_, fun b hb => by cases hb⟩, ⟨Kind.Row.none_, fun b hb => by cases hb⟩, HB⟩
        clear HC H6 H7 HB
        case round =>
          obtain ⟨Wb, rfl⟩ : ∃ Wb, Wb = wr := ⟨_, rfl⟩
          obtain ⟨k, j1, A1, c1, j2, A2, c2, rfl, rfl, rfl, hk, hj1, hj2, HC, H6, H7, R1, R2, HB⟩ := hrel
          have k0 : (0 : Int) ≤ (k : Int) := by omega
          by_cases hltk : k < 8
          · skip
            have k8 : (k : Int) < 8 := by omega
            have HOF : Hid (ofBk s (k : Int) = s.getD k none) := of_at (by rw [HSL.out]; exact hltk)
            have hu6 : (hasBk s).getD k false = (s.getD k none).isSome := hasBk_at
            have hu7 : (numBk s).getD k 0 = (s.getD k none).getD 0 := numBk_at
            go_wp2_with fail
            refine (bkof_any (k : Int) HC.out).mono ?_
            rw [HOF.out]
            rintro e W2 ⟨rfl, hb2⟩
            have S2 := Lib.hid (below_chain HB.out hb2.out)
            have C2 := Lib.hid (HC.out.since hb2.out)
            have P2_ := Lib.hid (H6.out.since hb2.out)
            have Q2 := Lib.hid (H7.out.since hb2.out)
            have X2 := Lib.hid (R1.out.since hb2.out)
            have Y2 := Lib.hid (R2.out.since hb2.out)
            clear hb2 HC H6 H7 R1 R2 HB HOF
            have g6 : W2.cell? ⟨q6, k, none⟩ = some (.bool (s.getD k none).isSome) := by rw [← hu6]; exact (P2_.out.cell k).trans (boolsC_at (by rw [hasBk_len, HSL.out]; exact hltk))
            have g7 : W2.cell? ⟨q7, k, none⟩ = some (.int .u64 ((s.getD k none).getD 0)) := by rw [← hu7]; exact (Q2.out.cell k).trans (wordsC_at (by rw [numBk_len, HSL.out]; exact hltk))
            clear hu6 hu7
            cases HO : s.getD k none with
            | none =>
              rw [HO] at g6 g7
              have g6' : W2.cell? ⟨q6, k, none⟩ = some (.bool false) := g6
              have g7' : W2.cell? ⟨q7, k, none⟩ = some (.int .u64 0) := g7
              clear g6 g7
              rw [← pagesN_none HO] at X2
              rw [← ownsN_none HO] at Y2
              clear HO
              simp only [Option.getD_none, Option.isSome_none]
              go_wp2_with fail
              go_roundw
              case rel => exact ⟨k + 1, j1, A1, c1, j2, A2, c2, rfl, rfl, by go_num, by omega, by omega, by omega, C2, P2_, Q2, X2, Y2, S2⟩
              case measure => simp [intOf]; omega
            | some v =>
              rw [HO] at g6 g7
              have g6' : W2.cell? ⟨q6, k, none⟩ = some (.bool true) := g6
              have g7' : W2.cell? ⟨q7, k, none⟩ = some (.int .u64 v) := g7
              clear g6 g7
              have HPN := Lib.hid (pagesN_some HO)
              have HON := Lib.hid (ownsN_some HO)
              have hv := C2.out.wf.wf k v HO
              have HNV : Hid ((numBk s).getD k 0 = v) := by show _ = _; rw [numBk_at, HO]; rfl
              clear HO
              simp only [Option.getD_some, Option.isSome_some]
              go_wp2_with fail
              clear g6' g7'
              obtain ⟨WE, HWE⟩ : ∃ W, Hid (W = W2.drew) := ⟨_, rfl⟩
              have HEL : Hid (Later W2 WE) := by rw [HWE.out]; exact (Below.refl _ _).drew
              have SE := Lib.hid (below_chain S2.out HEL.out)
              have CE := Lib.hid (C2.out.since HEL.out)
              have PE := Lib.hid (P2_.out.since HEL.out)
              have QE := Lib.hid (Q2.out.since HEL.out)
              have XE := Lib.hid (X2.out.since HEL.out)
              have YE := Lib.hid (Y2.out.since HEL.out)
              clear S2 C2 P2_ Q2 X2 Y2 HEL
              have HOK : Hid (P2.Ok (⟨WE, w.heap.size, A1, j1, c1, pagesN s k, (k : Int), A2, j2, c2, ownsN s k, v⟩ : P2 intK wordK)) := ⟨⟨by show (-9223372036854775808 : Int) ≤ (k : Int); omega, by show (k : Int) ≤ (9223372036854775807 : Int); omega⟩, hv, by show j1 + 1 ≤ 8000; omega, by show j2 + 1 ≤ 8000; omega, SE.out.size⟩
              have HFR : Hid (∀ b, P2.set (⟨WE, w.heap.size, A1, j1, c1, pagesN s k, (k : Int), A2, j2, c2, ownsN s k, v⟩ : P2 intK wordK) b → ¬ Or3 fp q6 q7 b) := fun b hb hf => by
                rcases hb with hb | hb
                · exact XE.out.safe b hb hf
                · exact YE.out.safe b hb hf
              have HGE : Hid (∀ b, P2.set (⟨WE, w.heap.size, A1, j1, c1, pagesN s k, (k : Int), A2, j2, c2, ownsN s k, v⟩ : P2 intK wordK) b → w.heap.size ≤ b) := fun b hb => by
                rcases hb with hb | hb
                · exact Row.blk_ge XE.out.row b hb
                · exact Row.blk_ge YE.out.row b hb
              have HKEEP : Hid (∀ fs vs W, ChJ (⟨WE, w.heap.size, A1, j1, c1, pagesN s k, (k : Int), A2, j2, c2, ownsN s k, v⟩ : P2 intK wordK) fs vs W → W.cell? ⟨q7, k, none⟩ = some (.int .u64 v)) := fun fs vs W h => by
                have h7 := QE.out.keep h.turn (fun hq => HFR.out q7 hq (Or.inr (Or.inr rfl)))
                refine (h7.cell k).trans ((wordsC_at (by rw [numBk_len, HSL.out]; exact hltk)).trans ?_)
                rw [HNV.out]
              refine region_of_steps7 (by kernel_rfl) [some (.slice A1 j1 c1), some (.int .i64 (k : Int)), none, none, some (.slice A2 j2 c2), some (.int .i64 (k : Int)), some (.pointer (some ⟨q7, k, none⟩)), some (.int .u64 v), none, none, none, none] [2, 3, 8, 9, 10, 11] [96, 97, 102, 103, 10, 11] (ChJ (⟨WE, w.heap.size, A1, j1, c1, pagesN s k, (k : Int), A2, j2, c2, ownsN s k, v⟩ : P2 intK wordK)) (by kernel_rfl) (by kernel_rfl) (by rw [← HWE.out]; exact ChJ.start HOK.out (by rw [slots_len]; rfl) XE.out.row YE.out.row (rows_apart int_word XE.out.row YE.out.row)) ?_ ?_
              · refine Steps7.cons ?_ (Steps7.cons ?_ (Steps7.cons ?_ (Steps7.cons ?_ (Steps7.cons ?_ (Steps7.cons ?_ (Steps7.cons ?_ (Steps7.cons ?_ (Steps7.cons ?_ (Steps7.cons ?_ (Steps7.cons ?_ (Steps7.cons ?_ (Steps7.nil))))))))))))
                · intro listed a W H hj hl hd
                  have t10 : a.tmps.getD 10 undef = .slice A1 j1 c1 := (H.before 10 10 0 (by kernel_rfl) (by kernel_rfl) hl).trans rfl
                  exact step7_value (i := 0) rfl rfl (run_op_move rfl t10) (calm7 (fun fs vs x y h hl => ChJ.later h hl) (by kernel_rfl) (by kernel_rfl) hj (later_refl _)) rfl
                · intro listed a W H hj hl hd
                  have t12 : a.tmps.getD 12 undef = .int .i64 (k : Int) := (H.old 12 (by kernel_rfl)).trans rfl
                  exact step7_value (i := 1) rfl rfl (run_op_move rfl t12) (calm7 (fun fs vs x y h hl => ChJ.later h hl) (by kernel_rfl) (by kernel_rfl) hj (later_refl _)) rfl
                · intro listed a W H hj hl hd
                  have t95 : a.tmps.getD 95 undef = .int .i64 (k : Int) := H.get 1 95 (by kernel_rfl) (dep_of hd 1 (by kernel_rfl)) (fun _ h => by cases h)
                  have f0 : (flags [2, 3, 8, 9, 10, 11] listed).getD 0 false = false := hl
                  have f1 : (flags [2, 3, 8, 9, 10, 11] listed).getD 1 false = false := H.notyets 6 hl (by kernel_rfl)
                  have hk9 := hj.build1 f0 f1 #[.int .i64 (k : Int)] rfl
                  rw [← flags_put (m := 2) 0 rfl (by decide), ← slots_at (a := a) (d := 96) 0 rfl (by decide) (by rw [H.size]; exact of_decide_eq_true (by kernel_rfl))] at hk9
                  exact step7_value (i := 2) rfl rfl (run_op_build rfl (by simp only [List.map_toArray, List.map_cons, List.map_nil]; show (Instr.buildSlice 44 1 #[(0, a.tmps.getD 95 undef)]).run _ _ = _; rw [t95]; exact run_build_int _ W)) hk9 trivial
                · intro listed a W H hj hl hd
                  have t94 : a.tmps.getD 94 undef = .slice A1 j1 c1 := H.get 0 94 (by kernel_rfl) (dep_of hd 0 (by kernel_rfl)) (fun _ h => by cases h)
                  have d96 : listed.getD 2 false = true := dep_of hd 2 (by kernel_rfl)
                  have f0 : (flags [2, 3, 8, 9, 10, 11] listed).getD 0 false = true := done_true (dep_of hd 2 (by kernel_rfl))
                  have f1 : (flags [2, 3, 8, 9, 10, 11] listed).getD 1 false = false := hl
                  have f4 : (flags [2, 3, 8, 9, 10, 11] listed).getD 4 false = false := H.notyets 6 hl (by kernel_rfl)
                  obtain ⟨A9, c9, W9, hr, hk9⟩ := hj.append1 f0 f1 f4
                  rw [← flags_put (m := 3) 1 rfl (by decide), ← slots_at (a := a) (d := 97) 1 rfl (by decide) (by rw [H.size]; exact of_decide_eq_true (by kernel_rfl))] at hk9
                  exact step7_value (i := 3) rfl rfl (run_op_append rfl t94 rfl hr) hk9 trivial
                · intro listed a W H hj hl hd
                  have t11 : a.tmps.getD 11 undef = .slice A2 j2 c2 := (H.before 11 11 4 (by kernel_rfl) (by kernel_rfl) hl).trans rfl
                  exact step7_value (i := 4) rfl rfl (run_op_move rfl t11) (calm7 (fun fs vs x y h hl => ChJ.later h hl) (by kernel_rfl) (by kernel_rfl) hj (later_refl _)) rfl
                · intro listed a W H hj hl hd
                  have t12 : a.tmps.getD 12 undef = .int .i64 (k : Int) := (H.old 12 (by kernel_rfl)).trans rfl
                  exact step7_value (i := 5) rfl rfl (run_op_move rfl t12) (calm7 (fun fs vs x y h hl => ChJ.later h hl) (by kernel_rfl) (by kernel_rfl) hj (later_refl _)) rfl
                · intro listed a W H hj hl hd
                  have t7 : a.tmps.getD 7 undef = .pointer (some ⟨q7, 0, none⟩) := (H.old 7 (by kernel_rfl)).trans rfl
                  have t99 : a.tmps.getD 99 undef = .int .i64 (k : Int) := H.get 5 99 (by kernel_rfl) (dep_of hd 5 (by kernel_rfl)) (fun _ h => by cases h)
                  exact step7_value (i := 6) rfl rfl (run_op_index rfl t7 t99 (run_index_own q7 k hltk W)) (calm7 (fun fs vs x y h hl => ChJ.later h hl) (by kernel_rfl) (by kernel_rfl) hj (later_refl _)) rfl
                · intro listed a W H hj hl hd
                  have t100 : a.tmps.getD 100 undef = .pointer (some ⟨q7, k, none⟩) := H.get 6 100 (by kernel_rfl) (dep_of hd 6 (by kernel_rfl)) (fun _ h => by cases h)
                  exact step7_value (i := 7) rfl rfl (run_op_load rfl t100 (run_load_word _ _ W (HKEEP.out _ _ _ hj))) (calm7 (fun fs vs x y h hl => ChJ.later h hl) (by kernel_rfl) (by kernel_rfl) hj (later_refl _)) rfl
                · intro listed a W H hj hl hd
                  have t101 : a.tmps.getD 101 undef = .int .u64 v := H.get 7 101 (by kernel_rfl) (dep_of hd 7 (by kernel_rfl)) (fun _ h => by cases h)
                  have f0 : (flags [2, 3, 8, 9, 10, 11] listed).getD 2 false = false := hl
                  have f1 : (flags [2, 3, 8, 9, 10, 11] listed).getD 3 false = false := H.notyets 6 hl (by kernel_rfl)
                  have hk9 := hj.build2 f0 f1 #[.int .u64 v] rfl
                  rw [← flags_put (m := 8) 2 rfl (by decide), ← slots_at (a := a) (d := 102) 2 rfl (by decide) (by rw [H.size]; exact of_decide_eq_true (by kernel_rfl))] at hk9
                  exact step7_value (i := 8) rfl rfl (run_op_build rfl (by simp only [List.map_toArray, List.map_cons, List.map_nil]; show (Instr.buildSlice 41 1 #[(0, a.tmps.getD 101 undef)]).run _ _ = _; rw [t101]; exact run_build_word _ W)) hk9 trivial
                · intro listed a W H hj hl hd
                  have t98 : a.tmps.getD 98 undef = .slice A2 j2 c2 := H.get 4 98 (by kernel_rfl) (dep_of hd 4 (by kernel_rfl)) (fun _ h => by cases h)
                  have d102 : listed.getD 8 false = true := dep_of hd 8 (by kernel_rfl)
                  have f0 : (flags [2, 3, 8, 9, 10, 11] listed).getD 2 false = true := done_true (dep_of hd 8 (by kernel_rfl))
                  have f1 : (flags [2, 3, 8, 9, 10, 11] listed).getD 3 false = false := hl
                  have f4 : (flags [2, 3, 8, 9, 10, 11] listed).getD 5 false = false := H.notyets 6 hl (by kernel_rfl)
                  obtain ⟨A9, c9, W9, hr, hk9⟩ := hj.append2 f0 f1 f4
                  rw [← flags_put (m := 9) 3 rfl (by decide), ← slots_at (a := a) (d := 103) 3 rfl (by decide) (by rw [H.size]; exact of_decide_eq_true (by kernel_rfl))] at hk9
                  exact step7_value (i := 9) rfl rfl (run_op_append rfl t98 rfl hr) hk9 trivial
                · intro listed a W H hj hl hd
                  have d97 : listed.getD 3 false = true := dep_of hd 3 (by kernel_rfl)
                  have hk9 := hj.assign1
                  rw [← flags_put (m := 10) 4 rfl (by decide), ← slots_at (a := a) (d := 10) 4 rfl (by decide) (by rw [H.size]; exact of_decide_eq_true (by kernel_rfl))] at hk9
                  exact step7_value (i := 10) rfl rfl (run_op_assign rfl rfl) hk9 trivial
                · intro listed a W H hj hl hd
                  have d103 : listed.getD 9 false = true := dep_of hd 9 (by kernel_rfl)
                  have hk9 := hj.assign2
                  rw [← flags_put (m := 11) 5 rfl (by decide), ← slots_at (a := a) (d := 11) 5 rfl (by decide) (by rw [H.size]; exact of_decide_eq_true (by kernel_rfl))] at hk9
                  exact step7_value (i := 11) rfl rfl (run_op_assign rfl rfl) hk9 trivial
              · intro a WC hdef hsz hw hall hact
                obtain ⟨u, hu⟩ : ∃ u : Nat → Value, ∀ k, a.tmps.getD k undef = u k := ⟨_, fun _ => rfl⟩
                simp only [hu] at hact
                have hact' : a = ([94, 95, 96, 97, 98, 99, 100, 101, 102, 103, 10, 11] : List Nat).foldl (fun b k => b.put (some k) (u k)) _ := hact
                simp only [List.foldl] at hact'
                simp only [Act.put, List.setIfInBounds_toArray, List.set_cons_succ, List.set_cons_zero] at hact'
                have HAC := Lib.hid hact'
                have HX := Lib.hid hw
                clear hact hact' hall hdef hsz hw
                rw [HAC.out]
                obtain ⟨B5, d5, B6, d6, e4, e5, r1_, r2_, w1_, w2_⟩ := HX.out.where_ rfl rfl rfl rfl
                have g5 : u 10 = .slice B5 (j1 + 1) d5 := by rw [← hu]; exact e4
                have g6 : u 11 = .slice B6 (j2 + 1) d6 := by rw [← hu]; exact e5
                have SC : Hid (Below w.heap.size w WC) := SE.out.trans (HX.out.turn.below HGE.out SE.out.size)
                have CC := Lib.hid (CE.out.keep HX.out.turn (fun b h1 h2 => HFR.out b h1 (Or.inl h2)))
                have PC := Lib.hid (PE.out.keep HX.out.turn (fun h1 => HFR.out q6 h1 (Or.inr (Or.inl rfl))))
                have QC := Lib.hid (QE.out.keep HX.out.turn (fun h1 => HFR.out q7 h1 (Or.inr (Or.inr rfl))))
                have hlt3 : ∀ b, Or3 fp q6 q7 b → b < WE.heap.size := fun b hb => by
                  rcases hb with hb | rfl | rfl
                  · exact CE.out.lt b hb
                  · exact PE.out.lt
                  · exact QE.out.lt
                have XC : Hid (RestK intK (Or3 fp q6 q7) WC w.heap.size B5 (j1 + 1) d5 (pagesN s (k + 1))) := by
                  rw [HPN.out]
                  refine ⟨r1_, fun b hb hf => ?_⟩
                  rcases w1_ b hb with h1 | h1
                  · exact HFR.out b h1 hf
                  · have h2 : WE.heap.size ≤ b := h1
                    have := hlt3 b hf; omega
                have YC : Hid (RestK wordK (Or3 fp q6 q7) WC w.heap.size B6 (j2 + 1) d6 (ownsN s (k + 1))) := by
                  rw [HON.out]
                  refine ⟨r2_, fun b hb hf => ?_⟩
                  rcases w2_ b hb with h1 | h1
                  · exact HFR.out b h1 hf
                  · have h2 : WE.heap.size ≤ b := h1
                    have := hlt3 b hf; omega
                rw [g5, g6]
                clear HX HOK SE CE PE QE XE YE HWE hu e4 e5 r1_ r2_ w1_ w2_ g5 g6 HAC HPN HON HKEEP HFR HGE hlt3 HNV
                go_wp2_with fail
                go_roundw
                case rel => exact ⟨k + 1, j1 + 1, B5, d5, j2 + 1, B6, d6, rfl, rfl, by go_num, by omega, by omega, by omega, CC, PC, QC, XC, YC, SC⟩
                case measure => simp [intOf]; omega
          · skip
            obtain rfl : k = 8 := by omega
            have HPA := Lib.hid (pagesN_all HSL.out)
            have HOA := Lib.hid (ownsN_all HSL.out (by omega))
            clear H6 H7 hltk k0
            go_wp2_with fail
            refine (bkpages_any HC.out).mono ?_
            rw [HPA.out]
            rintro e W2 ⟨A3, n3, c3, rfl, hi3, hb3⟩
            obtain rfl : j1 = n3 := R1.out.row.len.symm.trans hi3.out.len
            have S2 := Lib.hid (below_chain HB.out hb3.out)
            have C2 := Lib.hid (HC.out.since hb3.out)
            have X2 := Lib.hid (R1.out.since hb3.out)
            have Y2 := Lib.hid (R2.out.since hb3.out)
            have I2 := Lib.hid (hi3.out.lie)
            clear hi3 hb3 HB HC R1 R2
            go_wp2_with fail
            refine (sameints_yes _ _ j1 _ _ (pagesN s 8) _ (by omega) I2.out X2.out.row.lie).mono ?_
            rintro e W4 ⟨rfl, hb4⟩
            have S4 := Lib.hid (below_chain S2.out hb4)
            have C4 := Lib.hid (C2.out.since hb4)
            have Y4 := Lib.hid (Y2.out.since hb4)
            clear hb4 S2 C2 X2 Y2 I2
            go_wp2_with fail
            refine (bkrange_any (-5) 100 C4.out).mono ?_
            rw [HOA.out]
            rintro e W5 ⟨A5, n5, c5, rfl, hi5, hb5⟩
            obtain rfl : j2 = n5 := Y4.out.row.len.symm.trans hi5.out.len
            have S5 := Lib.hid (below_chain S4.out hb5.out)
            have Y5 := Lib.hid (Y4.out.since hb5.out)
            have I5 := Lib.hid (hi5.out.lie)
            clear hi5 hb5 S4 C4 Y4
            go_wp2_with fail
            refine (samewords_yes _ _ j2 _ _ (ownsN s 8) _ (by omega) I5.out Y5.out.row.lie).mono ?_
            rintro e W6 ⟨rfl, hb6⟩
            have S6 := Lib.hid (below_chain S5.out hb6)
            clear hb6 S5 Y5 I5
            go_wp2_with fail
            refine (bkawake_any _).mono ?_
            rintro e W7 ⟨rfl, hb7⟩
            have S7 := Lib.hid (below_chain S6.out hb7.out)
            go_wp2_with fail
            go_ret
            exact ⟨rfl, S7⟩
    · obtain rfl : i = n := by omega
      obtain ⟨s, HSI⟩ : ∃ s, Hid (tnB ps xs i = s) := ⟨_, rfl⟩
      rw [HSI.out] at HC H6 H7 HSL
      clear HSI HA HX
      go_wp2_with fail
      clear hlt
      go_loopw [10, 11, 12] (fun t10 t11 t12 wr => ∃ (k j1 : Nat) (A1 : Option Addr) (c1 j2 : Nat) (A2 : Option Addr) (c2 : Nat), t10 = .slice A1 j1 c1 ∧ t11 = .slice A2 j2 c2 ∧ t12 = .int .i64 k ∧ k ≤ 8 ∧ j1 ≤ k ∧ j2 ≤ k ∧ Hid (BkAt wr w.heap.size fp g s) ∧ Hid (RestC fp wr q6 (boolsC (hasBk s)) 54) ∧ Hid (RestC fp wr q7 (wordsC (numBk s)) 55) ∧ Hid (RestK intK (Or3 fp q6 q7) wr w.heap.size A1 j1 c1 (pagesN s k)) ∧ Hid (RestK wordK (Or3 fp q6 q7) wr w.heap.size A2 j2 c2 (ownsN s k)) ∧ Hid (Below w.heap.size w wr)) (fun _ _ t12 _ => 8 - (intOf t12).toNat)
      case atStart => exact ⟨0, 0, none, 0, 0, none, 0, rfl, rfl, rfl, by omega, by omega, by omega, HC, H6, H7, ⟨Kind.Row.none_, fun b hb => by cases hb⟩, ⟨Kind.Row.none_, fun b hb => by cases hb⟩, HB⟩
      clear HC H6 H7 HB
      case round =>
        obtain ⟨Wb, rfl⟩ : ∃ Wb, Wb = wr := ⟨_, rfl⟩
        obtain ⟨k, j1, A1, c1, j2, A2, c2, rfl, rfl, rfl, hk, hj1, hj2, HC, H6, H7, R1, R2, HB⟩ := hrel
        have k0 : (0 : Int) ≤ (k : Int) := by omega
        by_cases hltk : k < 8
        · skip
          have k8 : (k : Int) < 8 := by omega
          have HOF : Hid (ofBk s (k : Int) = s.getD k none) := of_at (by rw [HSL.out]; exact hltk)
          have hu6 : (hasBk s).getD k false = (s.getD k none).isSome := hasBk_at
          have hu7 : (numBk s).getD k 0 = (s.getD k none).getD 0 := numBk_at
          go_wp2_with fail
          refine (bkof_any (k : Int) HC.out).mono ?_
          rw [HOF.out]
          rintro e W2 ⟨rfl, hb2⟩
          have S2 := Lib.hid (below_chain HB.out hb2.out)
          have C2 := Lib.hid (HC.out.since hb2.out)
          have P2_ := Lib.hid (H6.out.since hb2.out)
          have Q2 := Lib.hid (H7.out.since hb2.out)
          have X2 := Lib.hid (R1.out.since hb2.out)
          have Y2 := Lib.hid (R2.out.since hb2.out)
          clear hb2 HC H6 H7 R1 R2 HB HOF
          have g6 : W2.cell? ⟨q6, k, none⟩ = some (.bool (s.getD k none).isSome) := by rw [← hu6]; exact (P2_.out.cell k).trans (boolsC_at (by rw [hasBk_len, HSL.out]; exact hltk))
          have g7 : W2.cell? ⟨q7, k, none⟩ = some (.int .u64 ((s.getD k none).getD 0)) := by rw [← hu7]; exact (Q2.out.cell k).trans (wordsC_at (by rw [numBk_len, HSL.out]; exact hltk))
          clear hu6 hu7
          cases HO : s.getD k none with
          | none =>
            rw [HO] at g6 g7
            have g6' : W2.cell? ⟨q6, k, none⟩ = some (.bool false) := g6
            have g7' : W2.cell? ⟨q7, k, none⟩ = some (.int .u64 0) := g7
            clear g6 g7
            rw [← pagesN_none HO] at X2
            rw [← ownsN_none HO] at Y2
            clear HO
            simp only [Option.getD_none, Option.isSome_none]
            go_wp2_with fail
            go_roundw
            case rel => exact ⟨k + 1, j1, A1, c1, j2, A2, c2, rfl, rfl, by go_num, by omega, by omega, by omega, C2, P2_, Q2, X2, Y2, S2⟩
            case measure => simp [intOf]; omega
          | some v =>
            rw [HO] at g6 g7
            have g6' : W2.cell? ⟨q6, k, none⟩ = some (.bool true) := g6
            have g7' : W2.cell? ⟨q7, k, none⟩ = some (.int .u64 v) := g7
            clear g6 g7
            have HPN := Lib.hid (pagesN_some HO)
            have HON := Lib.hid (ownsN_some HO)
            have hv := C2.out.wf.wf k v HO
            have HNV : Hid ((numBk s).getD k 0 = v) := by show _ = _; rw [numBk_at, HO]; rfl
            clear HO
            simp only [Option.getD_some, Option.isSome_some]
            go_wp2_with fail
            clear g6' g7'
            obtain ⟨WE, HWE⟩ : ∃ W, Hid (W = W2.drew) := ⟨_, rfl⟩
            have HEL : Hid (Later W2 WE) := by rw [HWE.out]; exact (Below.refl _ _).drew
            have SE := Lib.hid (below_chain S2.out HEL.out)
            have CE := Lib.hid (C2.out.since HEL.out)
            have PE := Lib.hid (P2_.out.since HEL.out)
            have QE := Lib.hid (Q2.out.since HEL.out)
            have XE := Lib.hid (X2.out.since HEL.out)
            have YE := Lib.hid (Y2.out.since HEL.out)
            clear S2 C2 P2_ Q2 X2 Y2 HEL
            have HOK : Hid (P2.Ok (⟨WE, w.heap.size, A1, j1, c1, pagesN s k, (k : Int), A2, j2, c2, ownsN s k, v⟩ : P2 intK wordK)) := ⟨⟨by show (-9223372036854775808 : Int) ≤ (k : Int); omega, by show (k : Int) ≤ (9223372036854775807 : Int); omega⟩, hv, by show j1 + 1 ≤ 8000; omega, by show j2 + 1 ≤ 8000; omega, SE.out.size⟩
            have HFR : Hid (∀ b, P2.set (⟨WE, w.heap.size, A1, j1, c1, pagesN s k, (k : Int), A2, j2, c2, ownsN s k, v⟩ : P2 intK wordK) b → ¬ Or3 fp q6 q7 b) := fun b hb hf => by
              rcases hb with hb | hb
              · exact XE.out.safe b hb hf
              · exact YE.out.safe b hb hf
            have HGE : Hid (∀ b, P2.set (⟨WE, w.heap.size, A1, j1, c1, pagesN s k, (k : Int), A2, j2, c2, ownsN s k, v⟩ : P2 intK wordK) b → w.heap.size ≤ b) := fun b hb => by
              rcases hb with hb | hb
              · exact Row.blk_ge XE.out.row b hb
              · exact Row.blk_ge YE.out.row b hb
            have HKEEP : Hid (∀ fs vs W, ChJ (⟨WE, w.heap.size, A1, j1, c1, pagesN s k, (k : Int), A2, j2, c2, ownsN s k, v⟩ : P2 intK wordK) fs vs W → W.cell? ⟨q7, k, none⟩ = some (.int .u64 v)) := fun fs vs W h => by
              have h7 := QE.out.keep h.turn (fun hq => HFR.out q7 hq (Or.inr (Or.inr rfl)))
              refine (h7.cell k).trans ((wordsC_at (by rw [numBk_len, HSL.out]; exact hltk)).trans ?_)
              rw [HNV.out]
            refine region_of_steps7 (by kernel_rfl) [some (.slice A1 j1 c1), some (.int .i64 (k : Int)), none, none, some (.slice A2 j2 c2), some (.int .i64 (k : Int)), some (.pointer (some ⟨q7, k, none⟩)), some (.int .u64 v), none, none, none, none] [2, 3, 8, 9, 10, 11] [96, 97, 102, 103, 10, 11] (ChJ (⟨WE, w.heap.size, A1, j1, c1, pagesN s k, (k : Int), A2, j2, c2, ownsN s k, v⟩ : P2 intK wordK)) (by kernel_rfl) (by kernel_rfl) (by rw [← HWE.out]; exact ChJ.start HOK.out (by rw [slots_len]; rfl) XE.out.row YE.out.row (rows_apart int_word XE.out.row YE.out.row)) ?_ ?_
            · refine Steps7.cons ?_ (Steps7.cons ?_ (Steps7.cons ?_ (Steps7.cons ?_ (Steps7.cons ?_ (Steps7.cons ?_ (Steps7.cons ?_ (Steps7.cons ?_ (Steps7.cons ?_ (Steps7.cons ?_ (Steps7.cons ?_ (Steps7.cons ?_ (Steps7.nil))))))))))))
              · intro listed a W H hj hl hd
                have t10 : a.tmps.getD 10 undef = .slice A1 j1 c1 := (H.before 10 10 0 (by kernel_rfl) (by kernel_rfl) hl).trans rfl
                exact step7_value (i := 0) rfl rfl (run_op_move rfl t10) (calm7 (fun fs vs x y h hl => ChJ.later h hl) (by kernel_rfl) (by kernel_rfl) hj (later_refl _)) rfl
              · intro listed a W H hj hl hd
                have t12 : a.tmps.getD 12 undef = .int .i64 (k : Int) := (H.old 12 (by kernel_rfl)).trans rfl
                exact step7_value (i := 1) rfl rfl (run_op_move rfl t12) (calm7 (fun fs vs x y h hl => ChJ.later h hl) (by kernel_rfl) (by kernel_rfl) hj (later_refl _)) rfl
              · intro listed a W H hj hl hd
                have t95 : a.tmps.getD 95 undef = .int .i64 (k : Int) := H.get 1 95 (by kernel_rfl) (dep_of hd 1 (by kernel_rfl)) (fun _ h => by cases h)
                have f0 : (flags [2, 3, 8, 9, 10, 11] listed).getD 0 false = false := hl
                have f1 : (flags [2, 3, 8, 9, 10, 11] listed).getD 1 false = false := H.notyets 6 hl (by kernel_rfl)
                have hk9 := hj.build1 f0 f1 #[.int .i64 (k : Int)] rfl
                rw [← flags_put (m := 2) 0 rfl (by decide), ← slots_at (a := a) (d := 96) 0 rfl (by decide) (by rw [H.size]; exact of_decide_eq_true (by kernel_rfl))] at hk9
                exact step7_value (i := 2) rfl rfl (run_op_build rfl (by simp only [List.map_toArray, List.map_cons, List.map_nil]; show (Instr.buildSlice 44 1 #[(0, a.tmps.getD 95 undef)]).run _ _ = _; rw [t95]; exact run_build_int _ W)) hk9 trivial
              · intro listed a W H hj hl hd
                have t94 : a.tmps.getD 94 undef = .slice A1 j1 c1 := H.get 0 94 (by kernel_rfl) (dep_of hd 0 (by kernel_rfl)) (fun _ h => by cases h)
                have d96 : listed.getD 2 false = true := dep_of hd 2 (by kernel_rfl)
                have f0 : (flags [2, 3, 8, 9, 10, 11] listed).getD 0 false = true := done_true (dep_of hd 2 (by kernel_rfl))
                have f1 : (flags [2, 3, 8, 9, 10, 11] listed).getD 1 false = false := hl
                have f4 : (flags [2, 3, 8, 9, 10, 11] listed).getD 4 false = false := H.notyets 6 hl (by kernel_rfl)
                obtain ⟨A9, c9, W9, hr, hk9⟩ := hj.append1 f0 f1 f4
                rw [← flags_put (m := 3) 1 rfl (by decide), ← slots_at (a := a) (d := 97) 1 rfl (by decide) (by rw [H.size]; exact of_decide_eq_true (by kernel_rfl))] at hk9
                exact step7_value (i := 3) rfl rfl (run_op_append rfl t94 rfl hr) hk9 trivial
              · intro listed a W H hj hl hd
                have t11 : a.tmps.getD 11 undef = .slice A2 j2 c2 := (H.before 11 11 4 (by kernel_rfl) (by kernel_rfl) hl).trans rfl
                exact step7_value (i := 4) rfl rfl (run_op_move rfl t11) (calm7 (fun fs vs x y h hl => ChJ.later h hl) (by kernel_rfl) (by kernel_rfl) hj (later_refl _)) rfl
              · intro listed a W H hj hl hd
                have t12 : a.tmps.getD 12 undef = .int .i64 (k : Int) := (H.old 12 (by kernel_rfl)).trans rfl
                exact step7_value (i := 5) rfl rfl (run_op_move rfl t12) (calm7 (fun fs vs x y h hl => ChJ.later h hl) (by kernel_rfl) (by kernel_rfl) hj (later_refl _)) rfl
              · intro listed a W H hj hl hd
                have t7 : a.tmps.getD 7 undef = .pointer (some ⟨q7, 0, none⟩) := (H.old 7 (by kernel_rfl)).trans rfl
                have t99 : a.tmps.getD 99 undef = .int .i64 (k : Int) := H.get 5 99 (by kernel_rfl) (dep_of hd 5 (by kernel_rfl)) (fun _ h => by cases h)
                exact step7_value (i := 6) rfl rfl (run_op_index rfl t7 t99 (run_index_own q7 k hltk W)) (calm7 (fun fs vs x y h hl => ChJ.later h hl) (by kernel_rfl) (by kernel_rfl) hj (later_refl _)) rfl
              · intro listed a W H hj hl hd
                have t100 : a.tmps.getD 100 undef = .pointer (some ⟨q7, k, none⟩) := H.get 6 100 (by kernel_rfl) (dep_of hd 6 (by kernel_rfl)) (fun _ h => by cases h)
                exact step7_value (i := 7) rfl rfl (run_op_load rfl t100 (run_load_word _ _ W (HKEEP.out _ _ _ hj))) (calm7 (fun fs vs x y h hl => ChJ.later h hl) (by kernel_rfl) (by kernel_rfl) hj (later_refl _)) rfl
              · intro listed a W H hj hl hd
                have t101 : a.tmps.getD 101 undef = .int .u64 v := H.get 7 101 (by kernel_rfl) (dep_of hd 7 (by kernel_rfl)) (fun _ h => by cases h)
                have f0 : (flags [2, 3, 8, 9, 10, 11] listed).getD 2 false = false := hl
                have f1 : (flags [2, 3, 8, 9, 10, 11] listed).getD 3 false = false := H.notyets 6 hl (by kernel_rfl)
                have hk9 := hj.build2 f0 f1 #[.int .u64 v] rfl
                rw [← flags_put (m := 8) 2 rfl (by decide), ← slots_at (a := a) (d := 102) 2 rfl (by decide) (by rw [H.size]; exact of_decide_eq_true (by kernel_rfl))] at hk9
                exact step7_value (i := 8) rfl rfl (run_op_build rfl (by simp only [List.map_toArray, List.map_cons, List.map_nil]; show (Instr.buildSlice 41 1 #[(0, a.tmps.getD 101 undef)]).run _ _ = _; rw [t101]; exact run_build_word _ W)) hk9 trivial
              · intro listed a W H hj hl hd
                have t98 : a.tmps.getD 98 undef = .slice A2 j2 c2 := H.get 4 98 (by kernel_rfl) (dep_of hd 4 (by kernel_rfl)) (fun _ h => by cases h)
                have d102 : listed.getD 8 false = true := dep_of hd 8 (by kernel_rfl)
                have f0 : (flags [2, 3, 8, 9, 10, 11] listed).getD 2 false = true := done_true (dep_of hd 8 (by kernel_rfl))
                have f1 : (flags [2, 3, 8, 9, 10, 11] listed).getD 3 false = false := hl
                have f4 : (flags [2, 3, 8, 9, 10, 11] listed).getD 5 false = false := H.notyets 6 hl (by kernel_rfl)
                obtain ⟨A9, c9, W9, hr, hk9⟩ := hj.append2 f0 f1 f4
                rw [← flags_put (m := 9) 3 rfl (by decide), ← slots_at (a := a) (d := 103) 3 rfl (by decide) (by rw [H.size]; exact of_decide_eq_true (by kernel_rfl))] at hk9
                exact step7_value (i := 9) rfl rfl (run_op_append rfl t98 rfl hr) hk9 trivial
              · intro listed a W H hj hl hd
                have d97 : listed.getD 3 false = true := dep_of hd 3 (by kernel_rfl)
                have hk9 := hj.assign1
                rw [← flags_put (m := 10) 4 rfl (by decide), ← slots_at (a := a) (d := 10) 4 rfl (by decide) (by rw [H.size]; exact of_decide_eq_true (by kernel_rfl))] at hk9
                exact step7_value (i := 10) rfl rfl (run_op_assign rfl rfl) hk9 trivial
              · intro listed a W H hj hl hd
                have d103 : listed.getD 9 false = true := dep_of hd 9 (by kernel_rfl)
                have hk9 := hj.assign2
                rw [← flags_put (m := 11) 5 rfl (by decide), ← slots_at (a := a) (d := 11) 5 rfl (by decide) (by rw [H.size]; exact of_decide_eq_true (by kernel_rfl))] at hk9
                exact step7_value (i := 11) rfl rfl (run_op_assign rfl rfl) hk9 trivial
            · intro a WC hdef hsz hw hall hact
              obtain ⟨u, hu⟩ : ∃ u : Nat → Value, ∀ k, a.tmps.getD k undef = u k := ⟨_, fun _ => rfl⟩
              simp only [hu] at hact
              have hact' : a = ([94, 95, 96, 97, 98, 99, 100, 101, 102, 103, 10, 11] : List Nat).foldl (fun b k => b.put (some k) (u k)) _ := hact
              simp only [List.foldl] at hact'
              simp only [Act.put, List.setIfInBounds_toArray, List.set_cons_succ, List.set_cons_zero] at hact'
              have HAC := Lib.hid hact'
              have HX := Lib.hid hw
              clear hact hact' hall hdef hsz hw
              rw [HAC.out]
              obtain ⟨B5, d5, B6, d6, e4, e5, r1_, r2_, w1_, w2_⟩ := HX.out.where_ rfl rfl rfl rfl
              have g5 : u 10 = .slice B5 (j1 + 1) d5 := by rw [← hu]; exact e4
              have g6 : u 11 = .slice B6 (j2 + 1) d6 := by rw [← hu]; exact e5
              have SC : Hid (Below w.heap.size w WC) := SE.out.trans (HX.out.turn.below HGE.out SE.out.size)
              have CC := Lib.hid (CE.out.keep HX.out.turn (fun b h1 h2 => HFR.out b h1 (Or.inl h2)))
              have PC := Lib.hid (PE.out.keep HX.out.turn (fun h1 => HFR.out q6 h1 (Or.inr (Or.inl rfl))))
              have QC := Lib.hid (QE.out.keep HX.out.turn (fun h1 => HFR.out q7 h1 (Or.inr (Or.inr rfl))))
              have hlt3 : ∀ b, Or3 fp q6 q7 b → b < WE.heap.size := fun b hb => by
                rcases hb with hb | rfl | rfl
                · exact CE.out.lt b hb
                · exact PE.out.lt
                · exact QE.out.lt
              have XC : Hid (RestK intK (Or3 fp q6 q7) WC w.heap.size B5 (j1 + 1) d5 (pagesN s (k + 1))) := by
                rw [HPN.out]
                refine ⟨r1_, fun b hb hf => ?_⟩
                rcases w1_ b hb with h1 | h1
                · exact HFR.out b h1 hf
                · have h2 : WE.heap.size ≤ b := h1
                  have := hlt3 b hf; omega
              have YC : Hid (RestK wordK (Or3 fp q6 q7) WC w.heap.size B6 (j2 + 1) d6 (ownsN s (k + 1))) := by
                rw [HON.out]
                refine ⟨r2_, fun b hb hf => ?_⟩
                rcases w2_ b hb with h1 | h1
                · exact HFR.out b h1 hf
                · have h2 : WE.heap.size ≤ b := h1
                  have := hlt3 b hf; omega
              rw [g5, g6]
              clear HX HOK SE CE PE QE XE YE HWE hu e4 e5 r1_ r2_ w1_ w2_ g5 g6 HAC HPN HON HKEEP HFR HGE hlt3 HNV
              go_wp2_with fail
              go_roundw
              case rel => exact ⟨k + 1, j1 + 1, B5, d5, j2 + 1, B6, d6, rfl, rfl, by go_num, by omega, by omega, by omega, CC, PC, QC, XC, YC, SC⟩
              case measure => simp [intOf]; omega
        · skip
          obtain rfl : k = 8 := by omega
          have HPA := Lib.hid (pagesN_all HSL.out)
          have HOA := Lib.hid (ownsN_all HSL.out (by omega))
          clear H6 H7 hltk k0
          go_wp2_with fail
          refine (bkpages_any HC.out).mono ?_
          rw [HPA.out]
          rintro e W2 ⟨A3, n3, c3, rfl, hi3, hb3⟩
          obtain rfl : j1 = n3 := R1.out.row.len.symm.trans hi3.out.len
          have S2 := Lib.hid (below_chain HB.out hb3.out)
          have C2 := Lib.hid (HC.out.since hb3.out)
          have X2 := Lib.hid (R1.out.since hb3.out)
          have Y2 := Lib.hid (R2.out.since hb3.out)
          have I2 := Lib.hid (hi3.out.lie)
          clear hi3 hb3 HB HC R1 R2
          go_wp2_with fail
          refine (sameints_yes _ _ j1 _ _ (pagesN s 8) _ (by omega) I2.out X2.out.row.lie).mono ?_
          rintro e W4 ⟨rfl, hb4⟩
          have S4 := Lib.hid (below_chain S2.out hb4)
          have C4 := Lib.hid (C2.out.since hb4)
          have Y4 := Lib.hid (Y2.out.since hb4)
          clear hb4 S2 C2 X2 Y2 I2
          go_wp2_with fail
          refine (bkrange_any (-5) 100 C4.out).mono ?_
          rw [HOA.out]
          rintro e W5 ⟨A5, n5, c5, rfl, hi5, hb5⟩
          obtain rfl : j2 = n5 := Y4.out.row.len.symm.trans hi5.out.len
          have S5 := Lib.hid (below_chain S4.out hb5.out)
          have Y5 := Lib.hid (Y4.out.since hb5.out)
          have I5 := Lib.hid (hi5.out.lie)
          clear hi5 hb5 S4 C4 Y4
          go_wp2_with fail
          refine (samewords_yes _ _ j2 _ _ (ownsN s 8) _ (by omega) I5.out Y5.out.row.lie).mono ?_
          rintro e W6 ⟨rfl, hb6⟩
          have S6 := Lib.hid (below_chain S5.out hb6)
          clear hb6 S5 Y5 I5
          go_wp2_with fail
          refine (bkawake_any _).mono ?_
          rintro e W7 ⟨rfl, hb7⟩
          have S7 := Lib.hid (below_chain S6.out hb7.out)
          go_wp2_with fail
          go_ret
          exact ⟨rfl, S7⟩
end Go.Proofs.Ytiojnpoefbnjoaa
