/- StoreSpreads: true, whatever its arguments are. Conditions: what the listed variables hold. -/
import Derived.Test.YthgkdnegnecnjaaGreatDoorSpreadM
set_option linter.unusedVariables false
set_option linter.unusedSimpArgs false
set_option maxRecDepth 20000
namespace Go.Proofs.YthgkdnegnecnjaaGreatDoor
open Go.RowKit

theorem max_of16 (p q m : Int) (h : (q ≤ p ∧ m = p) ∨ (p ≤ q ∧ m = q)) (ts : Array TypeId) (ty : TypeId) (w : World) : (Builtin.max_ ts ty #[.int .i64 p, .int .i64 q]).run Tryz.prog w = .ok (.int .i64 m) w := by
  simp only [Builtin.max_]
  rcases h with ⟨h1, rfl⟩ | ⟨h1, rfl⟩ <;> simp [Builtin.max2] <;> omega
theorem min_of16 (p q m : Int) (h : (q ≤ p ∧ m = q) ∨ (p ≤ q ∧ m = p)) (ts : Array TypeId) (ty : TypeId) (w : World) : (Builtin.min_ ts ty #[.int .i64 p, .int .i64 q]).run Tryz.prog w = .ok (.int .i64 m) w := by
  simp only [Builtin.min_]
  rcases h with ⟨h1, rfl⟩ | ⟨h1, rfl⟩ <;> simp [Builtin.min2] <;> omega
theorem fresh_nth16 {marks : List Int} {ms : List M} {k : Nat} (hk : k < 16) : (c16 marks ms).nth k = ⟨List.replicate 4 (List.replicate 156 255), 0, 0, marks.contains (k : Int), false⟩ := Chip.fresh_nth hk
theorem cbl16 (marks : List Int) (ms : List M) : CBl (c16 marks ms) := fun k q hk h1 h2 => by
  rw [fresh_nth16 hk]
  exact getD_rep _ _ _ _ h2
theorem wf16 {marks : List Int} {ms : List M} (h : Chip.mayNew 16 4 128 marks ms = true) : (c16 marks ms).Wf := Chip.fresh_wf h marks
theorem start_rg : RG (startS (c16 [] [])) sg0 none := by
  have hw : (c16 [] []).Wf := wf16 (by kernel_rfl)
  obtain ⟨s1, h1, h2⟩ := new_rd hw ⟨rfl, rfl⟩ (by kernel_rfl)
  rw [new16] at h1
  obtain rfl := (Prod.mk.inj h1).1
  have hs := h2.si hw (cbl16 [] [])
  refine ⟨hs, ⟨rfl, rfl, fun k hk => by rw [show (startS (c16 [] [])).c.nth k = (c16 [] []).nth k from rfl, fresh_nth16 hk]⟩, rfl, rfl, rfl, rfl, rfl, rfl, fun k hk => ?_, fun k hk => ?_, fun _ => ⟨rfl, fun j r hj => ?_⟩, fun k q e => by cases e⟩
  · rw [show (startS (c16 [] [])).c.nth k = (c16 [] []).nth k from rfl, fresh_nth16 hk]; exact (getD_rep _ _ _ _ hk).symm
  · rw [show (startS (c16 [] [])).c.nth k = (c16 [] []).nth k from rfl, fresh_nth16 hk]; exact (getD_rep _ _ _ _ hk).symm
  · show ((List.replicate 16 (List.replicate 4 false)).getD j []).getD r false = false
    rw [getD_rep _ _ _ _ hj, List.getD_eq_getElem?_getD, List.getElem?_replicate]
    split <;> rfl
/-- Which number the page before has. -/
def oldV : Option (Nat × Nat) → Int
  | none => -1
  | some (k, q) => pno 4 k q
structure SpR (w : World) (g gc i : Nat) (o : Int) (W : World) (fp : Nat → Prop) (s : SS) (σ : Sg) (old : Option (Nat × Nat)) : Prop where
  st : StoreAt W w.heap.size fp g gc s
  rg : RG s σ old
  all : allG (300 - i) σ = true
  ops : s.c.ops ≤ 2 * i
  mis : s.c.misuse = 0
  o : oldV old = o
  b : Below w.heap.size w W
def wr (l : List Nat) (j : Nat) : List Nat := l.take j
theorem fold_snoc (f : Nat → Nat → Nat) (a : Nat) (l : List Nat) {j : Nat} (hj : j < l.length) : (l.take (j + 1)).foldl f a = f ((l.take j).foldl f a) (l.getD j 0) := by
  rw [List.getD_eq_getElem?_getD, List.getElem?_eq_getElem hj, List.take_add_one, List.getElem?_eq_getElem hj, List.foldl_append]; rfl
set_option maxHeartbeats 16000000 in
theorem spreads_law (x0 x1 : Int) (w : World) (hT : Tabs w) (hW : Wid w) : Calls Tryz.prog 5 #[.int .i64 x0, .int .i64 x1] w (SaysB w true) := by
  have HT := Lib.hid hT
  have HW := Lib.hid hW
  have hb0 := lowM_bd x0 301 (by omega)
  obtain ⟨m, HM⟩ : ∃ m : Nat, Hid (lowM x0 301 = (m : Int)) := ⟨(lowM x0 301).toNat, by show _ = _; omega⟩
  rw [HM.out] at hb0
  have hm : m ≤ 300 := by omega
  have hm9 : (m : Int) ≤ 300 := by omega
  have hb1 := lowM_bd x1 2 (by omega)
  obtain ⟨kk, HKK⟩ : ∃ kk, Hid (lowM x1 2 = kk) := ⟨_, rfl⟩
  rw [HKK.out] at hb1
  have HKB := Lib.hid hb1
  have HNEW := Lib.hid new16
  have HRG := Lib.hid start_rg
  obtain ⟨c0, HC0⟩ : ∃ c0, Hid (c16 [] [] = c0) := ⟨_, rfl⟩
  have HMAY : Hid (mayG (geoOf c0) = true) := by show _ = _; rw [← HC0.out]; kernel_rfl
  have HON : Hid (c0.on = true) := by show _ = _; rw [← HC0.out]; rfl
  have HOP0 : Hid (c0.ops = 0) := by show _ = _; rw [← HC0.out]; rfl
  have HMI0 : Hid ((startS c0).c.misuse = 0) := by show _ = _; rw [← HC0.out]; rfl
  have HOS0 : Hid ((startS c0).c.ops = 0) := HOP0
  rw [HC0.out] at HNEW HRG
  obtain ⟨s0, HS0⟩ : ∃ s0, Hid (startS c0 = s0) := ⟨_, rfl⟩
  rw [HS0.out] at HNEW HRG HMI0 HOS0
  clear hT hW hb0 hb1 HS0
  go_enter Tryz.func5, Tryz.ntmps5
  go_wp2_with fail
  refine (low_any x0 301 (by omega) (by omega) w).mono ?_
  rw [HM.out]
  rintro e w9 ⟨rfl, rfl⟩
  go_wp2_with fail
  refine (geo16_any w).mono ?_
  rintro e W0 ⟨rfl, hb0⟩
  have S0 := Lib.hid hb0.out
  clear hb0
  go_wp2_with fail
  refine (new_yes 16 4 128 none 0 0 [] none 0 0 [] W0 (by kernel_rfl) Kind.Lie.none_ Kind.Lie.none_ (by decide) (by decide)).mono ?_
  rintro e W1 ⟨gc, fc, rfl, hc1, hb1⟩
  rw [show Chip.fresh 16 4 128 [] [] = c0 from HC0.out] at hc1
  have S1 := Lib.hid (below_chain S0.out hb1)
  have C1 := Lib.hid (hc1.elder S0.out.size)
  clear hc1 hb1 S0 HC0
  go_wp2_with fail
  refine (snew_any HMAY.out HON.out HT.out HW.out S1.out (Nat.le_refl _) (by rw [HOP0.out]; decide) C1.out).mono ?_
  rw [HNEW.out]
  rintro e W2 hn2
  obtain ⟨g, fp, rfl, hg2, hs2, hm2⟩ : ∃ g fp, e = .returned (.tuple #[.pointer (some ⟨g, 0, none⟩), .nilIface]) ∧ W1.heap.size ≤ g ∧ StoreAt W2 w.heap.size fp g gc s0 ∧ Moves W1 fc W2 fp := by
    rcases hn2 with h | h
    · exact h.2
    · exact absurd rfl h.1
  have S2 := Lib.hid (hm2.below S1.out C1.out.ge S1.out.size)
  have HR0 : Hid (∃ fp s σ old, SpR w g gc 0 (-1) W2 fp s σ old) := ⟨fp, s0, sg0, none, hs2, HRG.out, all300, by rw [HOS0.out]; decide, HMI0.out, rfl, S2.out⟩
  clear hn2 hg2 hs2 hm2 S1 C1 HNEW HMAY HON HOP0 S2 HRG HMI0 HOS0
  go_wp2_with fail
  go_loopw [8, 9] (fun t8 t9 wr => ∃ (i : Nat) (o : Int), t8 = .int .i64 o ∧ t9 = .int .i64 (i : Int) ∧ i ≤ m ∧ Hid (∃ fp s σ old, SpR w g gc i o wr fp s σ old)) (fun _ t9 _ => m - (intOf t9).toNat)
  case atStart => exact ⟨0, -1, rfl, rfl, Nat.zero_le _, HR0⟩
  case round =>
    obtain ⟨i, o, rfl, rfl, hi, HR⟩ := hrel
    have i0 : (0 : Int) ≤ (i : Int) := by omega
    by_cases hlt : i < m
    · have i1 : (i : Int) < (m : Int) := by omega
      obtain ⟨fp2, s2, σ, old, Q⟩ := HR.out
      have C3 := Lib.hid Q.st
      have HRG := Lib.hid Q.rg
      have S3 := Lib.hid Q.b
      have HOPS := Lib.hid Q.ops
      have HMIS := Lib.hid Q.mis
      have HO := Lib.hid Q.o
      have hall : okG σ = true ∧ allG (300 - (i + 1)) (stepG σ) = true := by
        have := Q.all
        rw [show 300 - i = (300 - (i + 1)) + 1 by omega] at this
        exact Bool.and_eq_true_iff.1 this
      have HALL := Lib.hid hall
      have h128 : dataB (((fillL (i : Int) 128).length : Nat) : Int) = true := by rw [fillL_len]; decide
      have hb := HKB.out
      have hmay : mayB (3 + kk) 0 (1 + (i : Int)) 0 = true := mayB_yes ⟨by omega, by omega, by omega, by omega, Or.inr ⟨by omega, rfl⟩⟩
      have hlay := layO_yes (bs := fillL (i : Int) 128) h128 hmay
      obtain ⟨s3, s4, b, q, p1, p2, p3, p4, p5, p6, p7, p8, p9, p10⟩ := HRG.out.step hall.1 hlay (by decide) (by decide) (fillL_len _ _)
      have HP1 := Lib.hid p1
      have HP2 := Lib.hid p2
      have HP3 := Lib.hid p3
      have HP6 := Lib.hid p6
      have HCO : Hid (s4.c.ops ≤ 2 * i + 2) := by show _ ≤ _; rw [p8]; have := HOPS.out; omega
      have HCM : Hid (s4.c.misuse = 0) := by show _ = _; rw [p8, p9]; exact HMIS.out
      have HSW := Lib.hid p10
      have HPB : Hid (b < 16 ∧ q < 4) := ⟨p4, p5⟩
      clear Q HR hall h128 hmay hlay p1 p2 p3 p6 p7 p8 p9 p10 p4 p5 hb
      obtain ⟨S9, HS9⟩ : ∃ S9 : Int, Hid (1 + (i : Int) = S9) := ⟨_, rfl⟩
      obtain ⟨K9, HK9⟩ : ∃ K9 : Int, Hid (3 + kk = K9) := ⟨_, rfl⟩
      have hk9 : 0 ≤ kk ∧ kk < 2 := HKB.out
      obtain ⟨hk0, hk1⟩ := hk9
      go_wp2_with fail
      refine (low_any x1 2 (by omega) (by omega) wr).mono ?_
      rw [HKK.out]
      rintro e w9 ⟨rfl, rfl⟩
      go_wp2_with fail
      refine (fill_any (i : Int) 128 128 _ rfl (by omega) (by omega) (by decide)).mono ?_
      rintro e W4 ⟨A4, n4, c4, rfl, ho4, hb4⟩
      obtain rfl : 128 = n4 := by rw [← ho4.bytes.len, fillL_len]
      have S4 := Lib.hid (below_chain S3.out hb4)
      have C4 := Lib.hid (C3.out.since hb4)
      have O4 := Lib.hid ho4
      clear hb4 ho4 S3 C3
      go_wp2_with fail
      refine (put_any (3 + kk) 0 (1 + (i : Int)) 0 A4 128 c4 (fillL (i : Int) 128) (HT.out.since S4.out) (HW.out.since S4.out) O4.out.bytes (by decide) (by decide) (by decide) HSW.out (by have := HOPS.out; omega) C4.out).mono ?_
      rw [HP1.out]
      rintro e W5 ⟨v5, fp5, rfl, he5, hs5, hm5⟩
      obtain rfl := he5.nil
      have S5 := Lib.hid (hm5.below S4.out C4.out.ge S4.out.size)
      have C5 := Lib.hid hs5
      clear he5 hs5 hm5 S4 C4 O4 HP1 HSW HS9 HK9
      have ho0 : old = none ∨ ∃ k r, old = some (k, r) := by
        cases old with
        | none => exact Or.inl rfl
        | some kr => exact Or.inr ⟨kr.1, kr.2, rfl⟩
      -- the page before is dropped, if there is one
      rcases ho0 with rfl | ⟨k, r, rfl⟩
      · obtain rfl : (-1 : Int) = o := HO.out
        obtain rfl : s4 = s3 := HP2.out rfl
        obtain ⟨W6, HW6⟩ : ∃ W6, W5 = W6 := ⟨_, rfl⟩
        have S6 := S5
        have C6 := C5
        rw [HW6] at S6 C6
        subst HW6
        clear S5 C5 HP2 HP3
        go_wp2_with fail
        obtain ⟨l, HL⟩ : ∃ l, Hid ((stepG σ).we = l) := ⟨_, rfl⟩
        have hl16 : l.length = 16 := by rw [← HL.out]; exact HP6.out.wel
        have HLEN := Lib.hid hl16
        have hwe : ∀ k : Nat, k < 16 → (s4.c.wear (k : Int) : Int) = ((l.getD k 0 : Nat) : Int) := fun k hk => by
          rw [wear_nat _ (by rw [HP6.out.nb]; exact hk), HP6.out.we k hk, HL.out]
        have HWE := Lib.hid hwe
        have hok : hiG l ≤ loG l + 2 := by
          have h := HALL.out.1
          unfold okG at h
          have := of_decide_eq_true (Bool.and_eq_true_iff.1 (Bool.and_eq_true_iff.1 h).1).2
          rwa [HL.out] at this
        have HOK := Lib.hid hok
        have hwb : ∀ k : Nat, k < 16 → l.getD k 0 ≤ 1000 := fun k hk => by
          obtain ⟨fc6, hc6, _⟩ := C6.out.chip
          have h1 := wear_ops hc6.wf (k : Int)
          have h2 := HWE.out k hk
          have h3 := HCO.out
          omega
        have HWB := Lib.hid hwb
        obtain ⟨a0, HA0⟩ : ∃ a0 : Nat, Hid (l.getD 0 0 = a0) := ⟨_, rfl⟩
        have ha0 : a0 ≤ 1000 := by rw [← HA0.out]; exact hwb 0 (by omega)
        clear hl16 hwe hok hwb
        obtain ⟨fc6, hc6, hf6⟩ := C6.out.chip
        have D6 := Lib.hid hc6
        clear hc6 hf6
        have CW := Lib.hid (wear_any 0 D6.out)
        rw [show (s4.c.wear (0 : Int) : Int) = (a0 : Int) from by have := HWE.out 0 (by omega); rw [HA0.out] at this; exact this] at CW
        go_wp2_with fail
        refine CW.out.mono ?_
        rintro e W7 ⟨rfl, hb7⟩
        have S7 := Lib.hid (below_chain S6.out hb7.out)
        have C7 := Lib.hid (C6.out.since hb7.out)
        have D7 := Lib.hid (D6.out.since hb7.out)
        clear hb7 S6 C6 D6 CW
        have CW := Lib.hid (wear_any 0 D7.out)
        rw [show (s4.c.wear (0 : Int) : Int) = (a0 : Int) from by have := HWE.out 0 (by omega); rw [HA0.out] at this; exact this] at CW
        go_wp2_with fail
        refine CW.out.mono ?_
        rintro e W8 ⟨rfl, hb8⟩
        have S8 := Lib.hid (below_chain S7.out hb8.out)
        have C8 := Lib.hid (C7.out.since hb8.out)
        have D8 := Lib.hid (D7.out.since hb8.out)
        clear hb8 S7 C7 D7 CW
        go_wp2_with fail
        go_loopw [12, 13, 14] (fun t12 t13 t14 wq => ∃ (j lo hi : Nat), t14 = .int .i64 (j : Int) ∧ 1 ≤ j ∧ j ≤ 16 ∧ t12 = .int .i64 (lo : Int) ∧ t13 = .int .i64 (hi : Int) ∧ Hid (lo = (l.take j).foldl min a0 ∧ hi = (l.take j).foldl max a0) ∧ lo ≤ 1000 ∧ hi ≤ 1000 ∧ Hid (Below W8.heap.size W8 wq)) (fun _ _ t14 _ => 16 - (intOf t14).toNat)
        case atStart =>
          refine ⟨1, a0, a0, rfl, by omega, by omega, rfl, rfl, ?_, ha0, ha0, Below.refl _ _⟩
          have h1 := fold_snoc min a0 l (j := 0) (by rw [HLEN.out]; decide)
          have h2 := fold_snoc max a0 l (j := 0) (by rw [HLEN.out]; decide)
          rw [HA0.out] at h1 h2
          simp at h1 h2
          exact ⟨by simp [h1], by simp [h2]⟩
        case round =>
          obtain ⟨j, lo, hi, rfl, j1, j16, rfl, rfl, HLH, hlo, hhi, HBJ⟩ := hrel
          have j0 : (0 : Int) ≤ (j : Int) := by omega
          by_cases hj : j < 16
          · have jl : (j : Int) < 16 := by omega
            obtain ⟨a, HA⟩ : ∃ a : Nat, Hid (l.getD j 0 = a) := ⟨_, rfl⟩
            have ha : a ≤ 1000 := by rw [← HA.out]; exact HWB.out j hj
            have HWJ : Hid ((s4.c.wear (j : Int) : Int) = (a : Int)) := by have := HWE.out j hj; rw [HA.out] at this; exact this
            have CW := Lib.hid (wear_any (j : Int) (D8.out.since HBJ.out))
            rw [HWJ.out] at CW
            obtain ⟨lo2, HLO2⟩ : ∃ lo2 : Nat, Hid (min lo a = lo2) := ⟨_, rfl⟩
            obtain ⟨hi2, HHI2⟩ : ∃ hi2 : Nat, Hid (max hi a = hi2) := ⟨_, rfl⟩
            have hmn := min_of16 (lo : Int) (a : Int) (lo2 : Int) (by have := HLO2.out; omega)
            have hmx := max_of16 (hi : Int) (a : Int) (hi2 : Int) (by have := HHI2.out; omega)
            have HL2 : Hid (lo2 = (l.take (j + 1)).foldl min a0 ∧ hi2 = (l.take (j + 1)).foldl max a0) := by
              show _ ∧ _
              rw [fold_snoc min a0 l (by rw [HLEN.out]; exact hj), fold_snoc max a0 l (by rw [HLEN.out]; exact hj), ← HLH.out.1, ← HLH.out.2, HA.out]
              exact ⟨HLO2.out.symm, HHI2.out.symm⟩
            have l2 : lo2 ≤ 1000 := by have := HLO2.out; omega
            have h2 : hi2 ≤ 1000 := by have := HHI2.out; omega
            clear HLO2 HHI2 HLH HA
            go_wp2_with fail
            refine CW.out.mono ?_
            rintro e W9 ⟨rfl, hb9⟩
            have B9 := Lib.hid (below_chain HBJ.out hb9.out)
            clear hb9 HBJ CW
            have CW := Lib.hid (wear_any (j : Int) (D8.out.since B9.out))
            rw [show (s4.c.wear (j : Int) : Int) = (a : Int) from HWJ.out] at CW
            go_wp2_with (simp only [hmn])
            refine CW.out.mono ?_
            rintro e W10 ⟨rfl, hb10⟩
            have B10 := Lib.hid (below_chain B9.out hb10.out)
            clear hb10 B9 CW
            go_wp2_with (simp only [hmx])
            go_roundw
            case rel => exact ⟨j + 1, lo2, hi2, by go_num, by omega, by omega, rfl, rfl, HL2, l2, h2, B10⟩
            case measure => simp [intOf]; omega
          · obtain rfl : j = 16 := by omega
            have hd : (hi : Int) - (lo : Int) ≤ 2 := by
              have h1 := HLH.out
              rw [List.take_of_length_le (by rw [HLEN.out]; exact Nat.le_refl _)] at h1
              have h2 := HOK.out
              unfold hiG loG at h2
              rw [HA0.out, ← h1.1, ← h1.2] at h2
              omega
            have d1 : -9223372036854775808 ≤ (hi : Int) - (lo : Int) := by omega
            have d2 : (hi : Int) - (lo : Int) ≤ 9223372036854775807 := by omega
            have d3 : ¬ (2 : Int) < (hi : Int) - (lo : Int) := by omega
            have S11 := Lib.hid (below_chain S8.out HBJ.out)
            have C11 := Lib.hid (C8.out.since HBJ.out)
            have HR9 : Hid (∃ fp s σ old, SpR w g gc (i + 1) (pno 4 b q) _ fp s σ old) := ⟨_, s4, stepG σ, some (b, q), C11.out, HP6.out, HALL.out.2, by have := HCO.out; omega, HCM.out, rfl, S11.out⟩
            clear C11 S11 S8 C8 D8 HBJ HLH
            go_wp2_with fail
            go_roundw
            case rel => exact ⟨i + 1, pno 4 b q, rfl, by go_num, by omega, HR9⟩
            case measure => simp [intOf]; omega

      · have hd0 := HP3.out k r rfl
        obtain rfl : pno 4 k r = o := HO.out
        obtain ⟨o9, HO9⟩ : ∃ o9, Hid (pno 4 k r = o9) := ⟨_, rfl⟩
        have ho9 : (0 : Int) ≤ o9 := by rw [← HO9.out]; unfold pno; omega
        rw [HO9.out] at hd0 ⊢
        have CD := Lib.hid (sdrop_any o9 C5.out)
        rw [hd0] at CD
        clear hd0 HP2 HP3 HO HO9
        go_wp2_with fail
        refine CD.out.mono ?_
        rintro e W6 ⟨v6, fp6, rfl, he6, hs6, hm6⟩
        obtain rfl := he6.nil
        have S6 := Lib.hid (hm6.below S5.out C5.out.ge S5.out.size)
        have C6 := Lib.hid hs6
        clear he6 hs6 hm6 S5 C5 CD
        go_wp2_with fail
        obtain ⟨l, HL⟩ : ∃ l, Hid ((stepG σ).we = l) := ⟨_, rfl⟩
        have hl16 : l.length = 16 := by rw [← HL.out]; exact HP6.out.wel
        have HLEN := Lib.hid hl16
        have hwe : ∀ k : Nat, k < 16 → (s4.c.wear (k : Int) : Int) = ((l.getD k 0 : Nat) : Int) := fun k hk => by
          rw [wear_nat _ (by rw [HP6.out.nb]; exact hk), HP6.out.we k hk, HL.out]
        have HWE := Lib.hid hwe
        have hok : hiG l ≤ loG l + 2 := by
          have h := HALL.out.1
          unfold okG at h
          have := of_decide_eq_true (Bool.and_eq_true_iff.1 (Bool.and_eq_true_iff.1 h).1).2
          rwa [HL.out] at this
        have HOK := Lib.hid hok
        have hwb : ∀ k : Nat, k < 16 → l.getD k 0 ≤ 1000 := fun k hk => by
          obtain ⟨fc6, hc6, _⟩ := C6.out.chip
          have h1 := wear_ops hc6.wf (k : Int)
          have h2 := HWE.out k hk
          have h3 := HCO.out
          omega
        have HWB := Lib.hid hwb
        obtain ⟨a0, HA0⟩ : ∃ a0 : Nat, Hid (l.getD 0 0 = a0) := ⟨_, rfl⟩
        have ha0 : a0 ≤ 1000 := by rw [← HA0.out]; exact hwb 0 (by omega)
        clear hl16 hwe hok hwb
        obtain ⟨fc6, hc6, hf6⟩ := C6.out.chip
        have D6 := Lib.hid hc6
        clear hc6 hf6
        have CW := Lib.hid (wear_any 0 D6.out)
        rw [show (s4.c.wear (0 : Int) : Int) = (a0 : Int) from by have := HWE.out 0 (by omega); rw [HA0.out] at this; exact this] at CW
        go_wp2_with fail
        refine CW.out.mono ?_
        rintro e W7 ⟨rfl, hb7⟩
        have S7 := Lib.hid (below_chain S6.out hb7.out)
        have C7 := Lib.hid (C6.out.since hb7.out)
        have D7 := Lib.hid (D6.out.since hb7.out)
        clear hb7 S6 C6 D6 CW
        have CW := Lib.hid (wear_any 0 D7.out)
        rw [show (s4.c.wear (0 : Int) : Int) = (a0 : Int) from by have := HWE.out 0 (by omega); rw [HA0.out] at this; exact this] at CW
        go_wp2_with fail
        refine CW.out.mono ?_
        rintro e W8 ⟨rfl, hb8⟩
        have S8 := Lib.hid (below_chain S7.out hb8.out)
        have C8 := Lib.hid (C7.out.since hb8.out)
        have D8 := Lib.hid (D7.out.since hb8.out)
        clear hb8 S7 C7 D7 CW
        go_wp2_with fail
        go_loopw [12, 13, 14] (fun t12 t13 t14 wq => ∃ (j lo hi : Nat), t14 = .int .i64 (j : Int) ∧ 1 ≤ j ∧ j ≤ 16 ∧ t12 = .int .i64 (lo : Int) ∧ t13 = .int .i64 (hi : Int) ∧ Hid (lo = (l.take j).foldl min a0 ∧ hi = (l.take j).foldl max a0) ∧ lo ≤ 1000 ∧ hi ≤ 1000 ∧ Hid (Below W8.heap.size W8 wq)) (fun _ _ t14 _ => 16 - (intOf t14).toNat)
        case atStart =>
          refine ⟨1, a0, a0, rfl, by omega, by omega, rfl, rfl, ?_, ha0, ha0, Below.refl _ _⟩
          have h1 := fold_snoc min a0 l (j := 0) (by rw [HLEN.out]; decide)
          have h2 := fold_snoc max a0 l (j := 0) (by rw [HLEN.out]; decide)
          rw [HA0.out] at h1 h2
          simp at h1 h2
          exact ⟨by simp [h1], by simp [h2]⟩
        case round =>
          obtain ⟨j, lo, hi, rfl, j1, j16, rfl, rfl, HLH, hlo, hhi, HBJ⟩ := hrel
          have j0 : (0 : Int) ≤ (j : Int) := by omega
          by_cases hj : j < 16
          · have jl : (j : Int) < 16 := by omega
            obtain ⟨a, HA⟩ : ∃ a : Nat, Hid (l.getD j 0 = a) := ⟨_, rfl⟩
            have ha : a ≤ 1000 := by rw [← HA.out]; exact HWB.out j hj
            have HWJ : Hid ((s4.c.wear (j : Int) : Int) = (a : Int)) := by have := HWE.out j hj; rw [HA.out] at this; exact this
            have CW := Lib.hid (wear_any (j : Int) (D8.out.since HBJ.out))
            rw [HWJ.out] at CW
            obtain ⟨lo2, HLO2⟩ : ∃ lo2 : Nat, Hid (min lo a = lo2) := ⟨_, rfl⟩
            obtain ⟨hi2, HHI2⟩ : ∃ hi2 : Nat, Hid (max hi a = hi2) := ⟨_, rfl⟩
            have hmn := min_of16 (lo : Int) (a : Int) (lo2 : Int) (by have := HLO2.out; omega)
            have hmx := max_of16 (hi : Int) (a : Int) (hi2 : Int) (by have := HHI2.out; omega)
            have HL2 : Hid (lo2 = (l.take (j + 1)).foldl min a0 ∧ hi2 = (l.take (j + 1)).foldl max a0) := by
              show _ ∧ _
              rw [fold_snoc min a0 l (by rw [HLEN.out]; exact hj), fold_snoc max a0 l (by rw [HLEN.out]; exact hj), ← HLH.out.1, ← HLH.out.2, HA.out]
              exact ⟨HLO2.out.symm, HHI2.out.symm⟩
            have l2 : lo2 ≤ 1000 := by have := HLO2.out; omega
            have h2 : hi2 ≤ 1000 := by have := HHI2.out; omega
            clear HLO2 HHI2 HLH HA
            go_wp2_with fail
            refine CW.out.mono ?_
            rintro e W9 ⟨rfl, hb9⟩
            have B9 := Lib.hid (below_chain HBJ.out hb9.out)
            clear hb9 HBJ CW
            have CW := Lib.hid (wear_any (j : Int) (D8.out.since B9.out))
            rw [show (s4.c.wear (j : Int) : Int) = (a : Int) from HWJ.out] at CW
            go_wp2_with (simp only [hmn])
            refine CW.out.mono ?_
            rintro e W10 ⟨rfl, hb10⟩
            have B10 := Lib.hid (below_chain B9.out hb10.out)
            clear hb10 B9 CW
            go_wp2_with (simp only [hmx])
            go_roundw
            case rel => exact ⟨j + 1, lo2, hi2, by go_num, by omega, by omega, rfl, rfl, HL2, l2, h2, B10⟩
            case measure => simp [intOf]; omega
          · obtain rfl : j = 16 := by omega
            have hd : (hi : Int) - (lo : Int) ≤ 2 := by
              have h1 := HLH.out
              rw [List.take_of_length_le (by rw [HLEN.out]; exact Nat.le_refl _)] at h1
              have h2 := HOK.out
              unfold hiG loG at h2
              rw [HA0.out, ← h1.1, ← h1.2] at h2
              omega
            have d1 : -9223372036854775808 ≤ (hi : Int) - (lo : Int) := by omega
            have d2 : (hi : Int) - (lo : Int) ≤ 9223372036854775807 := by omega
            have d3 : ¬ (2 : Int) < (hi : Int) - (lo : Int) := by omega
            have S11 := Lib.hid (below_chain S8.out HBJ.out)
            have C11 := Lib.hid (C8.out.since HBJ.out)
            have HR9 : Hid (∃ fp s σ old, SpR w g gc (i + 1) (pno 4 b q) _ fp s σ old) := ⟨_, s4, stepG σ, some (b, q), C11.out, HP6.out, HALL.out.2, by have := HCO.out; omega, HCM.out, rfl, S11.out⟩
            clear C11 S11 S8 C8 D8 HBJ HLH
            go_wp2_with fail
            go_roundw
            case rel => exact ⟨i + 1, pno 4 b q, rfl, by go_num, by omega, HR9⟩
            case measure => simp [intOf]; omega

    · obtain rfl : i = m := by omega
      obtain ⟨fp2, s2, σ, old, Q⟩ := HR.out
      obtain ⟨fc2, hc2, _⟩ := Q.st.chip
      have CM := Lib.hid (misuse_any hc2)
      rw [Q.mis] at CM
      have S3 := Lib.hid Q.b
      clear Q hc2 HR
      go_wp2_with fail
      refine CM.out.mono ?_
      rintro e W4 ⟨rfl, hb4⟩
      have S4 := Lib.hid (below_chain S3.out hb4.out)
      clear hb4 S3 CM
      go_wp2_with fail
      refine (sawake_any W4 (HT.out.since S4.out) (HW.out.since S4.out)).mono ?_
      rintro e W5 ⟨rfl, hb5⟩
      have S5 := Lib.hid (below_chain S4.out hb5.out)
      clear hb5 S4
      go_wp2_with fail
      go_ret
      exact ⟨rfl, S5.out⟩
end Go.Proofs.YthgkdnegnecnjaaGreatDoor
