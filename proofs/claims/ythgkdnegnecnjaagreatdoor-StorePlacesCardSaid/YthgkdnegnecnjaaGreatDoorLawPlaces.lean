/- StorePlaces: true, whatever its arguments are. Conditions: what the listed variables hold. -/
import Derived.Test.YthgkdnegnecnjaaGreatDoorTab64
import Derived.Test.YthgkdnegnecnjaaGreatDoorSbase
set_option linter.unusedVariables false
set_option linter.unusedSimpArgs false
set_option maxRecDepth 20000
namespace Go.Proofs.YthgkdnegnecnjaaGreatDoor
open Go.RowKit

theorem unwanted_none {ops : Array Oper} {o : Oper} {a : Act} {j : Nat} {d : Tmp} {b : Bool} (hg : o.guard = some (j, b)) (hd : (ops[j]?).bind (·.dst) = some d) (hv : a.tmps.getD d undef = undef) : Region.wanted o (yielded ops a.tmps) = false := by
  have hy : yielded ops a.tmps j = none := by
    unfold yielded
    simp only [hd, Option.bind_some]
    rcases Nat.lt_or_ge d a.tmps.size with h | h
    · simp only [Array.getD_eq_getD_getElem?, Array.getElem?_eq_getElem h, Option.getD_some] at hv
      rw [Array.getElem?_eq_getElem h, hv]; rfl
    · rw [Array.getElem?_eq_none h]
  simp only [Region.wanted, hg, hy]
  cases b <;> rfl
theorem run_load_b64 (p : Addr) (z : Bool) (w : World) (hc : w.cell? p = some (.bool z)) : (Instr.loadAt 4 (.pointer (some p))).run Tryz.prog w = .ok (.bool z) w := by go_simp
theorem run_load_i64 (p : Addr) (z : Int) (w : World) (hc : w.cell? p = some (.int .i64 z)) : (Instr.loadAt 3 (.pointer (some p))).run Tryz.prog w = .ok (.int .i64 z) w := by go_simp
theorem run_index_b64 (g p : Nat) (hp : p < 64) (w : World) : (Instr.indexAt 77 (.pointer (some ⟨g, 0, none⟩)) (.int .i64 (p : Int))).run Tryz.prog w = .ok (.pointer (some ⟨g, p, none⟩)) w := by
  have p0 : (0 : Int) ≤ (p : Int) := by omega
  have p1 : (p : Int) < 64 := by omega
  go_simp
theorem run_index_i64 (g p : Nat) (hp : p < 64) (w : World) : (Instr.indexAt 76 (.pointer (some ⟨g, 0, none⟩)) (.int .i64 (p : Int))).run Tryz.prog w = .ok (.pointer (some ⟨g, p, none⟩)) w := by
  have p0 : (0 : Int) ≤ (p : Int) := by omega
  have p1 : (p : Int) < 64 := by omega
  go_simp
set_option maxHeartbeats 32000000 in
theorem places_law (x0 x1 : Int) (w : World) (hT : Tabs w) (hW : Wid w) : Calls Tryz.prog 9 #[.int .i64 x0, .int .i64 x1] w (SaysB w true) := by
  have HT := Lib.hid hT
  have HW := Lib.hid hW
  have hb0 := lowM_bd x0 61 (by omega)
  obtain ⟨m, HM⟩ : ∃ m : Nat, Hid (lowM x0 61 = (m : Int)) := ⟨(lowM x0 61).toNat, by show _ = _; omega⟩
  rw [HM.out] at hb0
  have hm : m ≤ 60 := by omega
  have hm9 : (m : Int) ≤ 60 := by omega
  have HNEW := Lib.hid new16
  have HPI := Lib.hid start_pi.1
  have HCN := Lib.hid start_pi.2
  obtain ⟨c0, HC0⟩ : ∃ c0, Hid (c16 [] [] = c0) := ⟨_, rfl⟩
  have HMAY : Hid (mayG (geoOf c0) = true) := by show _ = _; rw [← HC0.out]; kernel_rfl
  have HON : Hid (c0.on = true) := by show _ = _; rw [← HC0.out]; rfl
  have HOP0 : Hid (c0.ops = 0) := by show _ = _; rw [← HC0.out]; rfl
  have HMI0 : Hid ((startS c0).c.misuse = 0) := by show _ = _; rw [← HC0.out]; rfl
  have HOS0 : Hid ((startS c0).c.ops = 0) := HOP0
  rw [HC0.out] at HNEW HPI HCN
  obtain ⟨s0, HS0⟩ : ∃ s0, Hid (startS c0 = s0) := ⟨_, rfl⟩
  rw [HS0.out] at HNEW HPI HCN HMI0 HOS0
  clear hT hW hb0 HS0
  obtain ⟨CA, HCA⟩ : ∃ C : Array Value, Hid (C = Array.replicate 64 (.int .i64 0)) := ⟨_, rfl⟩
  obtain ⟨CB, HCB⟩ : ∃ C : Array Value, Hid (C = Array.replicate 64 (.bool false)) := ⟨_, rfl⟩
  have hzA := zero_I64
  have hzB := zero_B64
  rw [← HCA.out] at hzA
  rw [← HCB.out] at hzB
  go_enter Tryz.func9, Tryz.ntmps9
  go_wp2_with fail
  refine (low_any x0 61 (by omega) (by omega) w).mono ?_
  rw [HM.out]
  rintro e w' ⟨rfl, rfl⟩
  go_wp2_with fail
  refine (geo16_any w).mono ?_
  rintro e W0 ⟨rfl, hb0⟩
  have S0 := Lib.hid hb0.out
  clear hb0
  go_wp2_with fail
  refine (new_yes 16 4 128 none 0 0 [] none 0 0 [] W0 (by kernel_rfl) Kind.Lie.none_ Kind.Lie.none_ (by decide) (by decide)).mono ?_
  rintro e W1 ⟨gc, fc, rfl, hc1, hb1⟩
  rw [show Chip.fresh 16 4 128 [] [] = c0 from HC0.out] at hc1
  have S1 := Lib.hid (below_chain S0.out hb1)
  have C1 := Lib.hid (hc1.elder S0.out.size)
  clear hc1 hb1 S0 HC0
  go_wp2_with fail
  refine (snew_any HMAY.out HON.out HT.out HW.out S1.out (Nat.le_refl _) (by rw [HOP0.out]; decide) C1.out).mono ?_
  rw [HNEW.out]
  rintro e W2 hn2
  obtain ⟨g, fp, rfl, hg2, hs2, hm2⟩ : ∃ g fp, e = .returned (.tuple #[.pointer (some ⟨g, 0, none⟩), .nilIface]) ∧ W1.heap.size ≤ g ∧ StoreAt W2 w.heap.size fp g gc s0 ∧ Moves W1 fc W2 fp := by
    rcases hn2 with h | h
    · exact h.2
    · exact absurd rfl h.1
  have S2 := Lib.hid (hm2.below S1.out C1.out.ge S1.out.size)
  obtain ⟨gA, HGA⟩ : ∃ gA, Hid (W2.heap.size = gA) := ⟨_, rfl⟩
  obtain ⟨W3, HW3⟩ : ∃ W3, Hid (W3 = W2.alloc (.cells CA 76)) := ⟨_, rfl⟩
  obtain ⟨W4, HW4⟩ : ∃ W4, Hid (W4 = W3.alloc (.cells CB 77)) := ⟨_, rfl⟩
  have hb3 : Below W2.heap.size W2 W3 := by rw [HW3.out]; exact (Below.refl _ _).alloc (Nat.le_refl _) _
  have hb4 : Below W3.heap.size W3 W4 := by rw [HW4.out]; exact (Below.refl _ _).alloc (Nat.le_refl _) _
  have hA3 : Tab64 fp W3 gA 76 fun _ => .int .i64 0 := by rw [HW3.out, ← HGA.out]; exact Tab64.new W2 CA HCA.out hs2.lt
  have hs3 := hs2.since hb3
  have hB4 : Tab64 fp W4 W3.heap.size 77 fun _ => .bool false := by rw [HW4.out]; exact Tab64.new W3 CB HCB.out hs3.lt
  obtain ⟨gB, HGB⟩ : ∃ gB, Hid (W3.heap.size = gB) := ⟨_, rfl⟩
  have hne : gA ≠ gB := by rw [← HGA.out, ← HGB.out, HW3.out]; simp
  have HGE : Hid (w.heap.size ≤ gA ∧ w.heap.size ≤ gB) := ⟨by rw [← HGA.out]; exact S2.out.size, by rw [← HGB.out]; exact Nat.le_trans S2.out.size hb3.size⟩
  rw [HGB.out] at hB4
  have HGB1 : Hid (gA + 1 = gB) := by show _ = _; rw [← HGB.out, HW3.out, ← HGA.out]; simp
  have HNE := Lib.hid hne
  have HR0 : Hid (∃ fp s ta tb, PlR w W4 g gc gA gB 0 0 fp s ta tb) := ⟨fp, s0, _, _, hs3.since hb4, HPI.out, by rw [HOS0.out]; decide, HMI0.out, HCN.out, hA3.since hb4, hB4, below_chain (below_chain S2.out hb3) hb4⟩
  clear hn2 hg2 hs2 hm2 S1 C1 HNEW HMAY HON HOP0 S2 HPI HCN HMI0 HOS0 hb3 hb4 hA3 hs3 hB4 hne HCA HCB
  go_wp2_with fail
  rw [HGA.out, ← HW3.out, HGB1.out, ← HW4.out]
  clear HGA HGB HGB1 HW3 HW4
  clear hzA hzB
  go_loopw [10, 11] (fun t10 t11 wr => ∃ (i l : Nat), t10 = .int .i64 (l : Int) ∧ t11 = .int .i64 (i : Int) ∧ i ≤ m ∧ l ≤ i ∧ Hid (∃ fp s ta tb, PlR w wr g gc gA gB i l fp s ta tb)) (fun _ t11 _ => m - (intOf t11).toNat)
  case atStart => exact ⟨0, 0, rfl, rfl, Nat.zero_le _, Nat.le_refl _, HR0⟩
  case round =>
    obtain ⟨i, l, rfl, rfl, hi, hl, HR⟩ := hrel
    have i0 : (0 : Int) ≤ (i : Int) := by omega
    by_cases hlt : i < m
    · have i1 : (i : Int) < (m : Int) := by omega
      obtain ⟨fp2, s2, ta, tb, Q⟩ := HR.out
      have C3 := Lib.hid Q.st
      have RA3 := Lib.hid Q.ra
      have RB3 := Lib.hid Q.rb
      have S3 := Lib.hid Q.b
      have HOPS := Lib.hid Q.ops
      have HMIS := Lib.hid Q.mis
      have HCNT := Lib.hid Q.cnt
      have HSW := Lib.hid Q.pi.si.sw
      obtain ⟨s3, k, q, p1, hk, hq, pf, p2, p3, p4, hpi⟩ := Q.pi.put (by omega)
      have HP1 := Lib.hid p1
      have HPI := Lib.hid hpi
      have HRM : Hid (0 ≤ roomS s3 ∧ roomS s3 + (l : Int) + 1 ≤ 64) := by
        have h1 := room_cnt hpi.si
        rw [hpi.nb, hpi.np, p2, HCNT.out] at h1
        have h2 := room_is hpi.si
        show _ ∧ _
        omega
      have HCO : Hid (s3.c.ops ≤ 2 * (i + 1)) := by show _ ≤ _; have := HOPS.out; omega
      have HCM : Hid (s3.c.misuse = 0) := p3.trans HMIS.out
      have HCT : Hid (cntN s3 = l + 1) := by show _ = _; rw [p2, HCNT.out]
      obtain ⟨pN, HPN⟩ : ∃ pN, Hid (k * 4 + q = pN) := ⟨_, rfl⟩
      have hpN : pN < 64 := by rw [← HPN.out]; omega
      have HKQ : Hid (k < 16 ∧ q < 4) := ⟨hk, hq⟩
      have HTB : Hid (tb pN = false) := by rw [HPN.out] at pf; exact Bool.eq_false_iff.2 pf
      rw [show pno 4 k q = (pN : Int) from by unfold pno; rw [HPN.out]] at HP1
      rw [HPN.out] at HPI
      have p0 : (0 : Int) ≤ (pN : Int) := by omega
      have p64 : (pN : Int) < 64 := by omega
      clear Q HR p1 p2 p3 p4 hpi pf HMIS HCNT hk hq
      go_wp2_with fail
      refine (fill_any (i : Int) 128 128 _ rfl (by omega) (by omega) (by decide)).mono ?_
      rintro e W4 ⟨A4, n4, c4, rfl, ho4, hb4⟩
      obtain rfl : 128 = n4 := by rw [← ho4.bytes.len, fillL_len]
      have S4 := Lib.hid (below_chain S3.out hb4)
      have C4 := Lib.hid (C3.out.since hb4)
      have RA4 := Lib.hid (RA3.out.since hb4)
      have RB4 := Lib.hid (RB3.out.since hb4)
      have O4 := Lib.hid ho4
      clear hb4 ho4 S3 C3 RA3 RB3
      go_wp2_with fail
      refine (put_any 2 (i : Int) (1 + (i : Int)) 0 A4 128 c4 (fillL (i : Int) 128) (HT.out.since S4.out) (HW.out.since S4.out) O4.out.bytes (by decide) (by omega) (by omega) HSW.out (by have := HOPS.out; omega) C4.out).mono ?_
      rw [HP1.out]
      rintro e W5 ⟨v5, fp5, rfl, he5, hs5, hm5⟩
      obtain rfl := he5.nil
      have S5 := Lib.hid (hm5.below S4.out C4.out.ge S4.out.size)
      have C5 := Lib.hid hs5
      have RA5 := Lib.hid (RA4.out.step hm5)
      have RB5 := Lib.hid (RB4.out.step hm5)
      clear he5 hs5 hm5 S4 C4 O4 RA4 RB4 HP1 HSW
      have cB : W5.cell? ⟨gB, pN, none⟩ = some (.bool (tb pN)) := RB5.out.cell hpN
      rw [HTB.out] at cB
      obtain ⟨nn, _, hsn⟩ := C5.out
      have CR := Lib.hid (sroom_any hsn)
      clear hsn
      obtain ⟨R, HRR⟩ : ∃ R, Hid (roomS s3 = R) := ⟨_, rfl⟩
      have hrm : 0 ≤ R ∧ R + (l : Int) + 1 ≤ 64 := by rw [← HRR.out]; exact HRM.out
      obtain ⟨r0, r64⟩ := hrm
      have l0 : (0 : Int) ≤ (l : Int) := by omega
      rw [HRR.out] at CR
      have b1 : -9223372036854775808 ≤ R + (l : Int) := by omega
      have b2 : R + (l : Int) ≤ 9223372036854775807 := by omega
      have b3 : -9223372036854775808 ≤ R + (l : Int) + 1 := by omega
      have b4 : R + (l : Int) + 1 ≤ 9223372036854775807 := by omega
      have b5 : ¬ (64 : Int) < R + (l : Int) + 1 := by omega
      have b6 : ¬ (pN : Int) < 0 := by omega
      have b7 : ¬ (63 : Int) < (pN : Int) := by omega
      go_wp2_with fail
      clear cB
      refine CR.out.mono ?_
      rintro e W6 ⟨rfl, hb6⟩
      have S6 := Lib.hid (below_chain S5.out hb6.out)
      have C6 := Lib.hid (C5.out.since hb6.out)
      have RA6 := Lib.hid (RA5.out.since hb6.out)
      have RB6 := Lib.hid (RB5.out.since hb6.out)
      clear hb6 S5 C5 RA5 RB5 CR
      have cA : W6.cell? ⟨gA, pN, none⟩ = some (.int .i64 (ta pN : Int)) := RA6.out.cell hpN
      have fA : W6.frozen? ⟨gA, pN, none⟩ = false := RA6.out.free pN
      have cB : W6.cell? ⟨gB, pN, none⟩ = some (.bool (tb pN)) := RB6.out.cell hpN
      have fB : W6.frozen? ⟨gB, pN, none⟩ = false := RB6.out.free pN
      obtain ⟨W7, HW7⟩ : ∃ W7, Hid (W7 = (W6.setCell ⟨gA, pN, none⟩ (.int .i64 (i : Int))).setCell ⟨gB, pN, none⟩ (.bool true)) := ⟨_, rfl⟩
      have hA1 : Tab64 fp5 (W6.setCell ⟨gA, pN, none⟩ (.int .i64 (i : Int))) gA 76 fun p => .int .i64 ((updF ta pN i p : Nat) : Int) := RA6.out.set hpN fun q' hq' => by unfold updF; split <;> rfl
      have hB1 : Tab64 fp5 (W6.setCell ⟨gA, pN, none⟩ (.int .i64 (i : Int))) gB 77 fun p => .bool (tb p) := RB6.out.keep (Turn.of_setCell (fp := fun x => x = gA) ⟨gA, pN, none⟩ _ rfl) (fun e => HNE.out e.symm)
      have cB2 := hB1.cell hpN
      have fB2 := hB1.free pN
      have hs1 := C6.out.keep (Turn.of_setCell (fp := fun x => x = gA) ⟨gA, pN, none⟩ (.int .i64 (i : Int)) rfl) (fun b e hf => RA6.out.safe (e ▸ hf))
      have hbl1 := (Turn.of_setCell (w := W6) (fp := fun x => x = gA) ⟨gA, pN, none⟩ (.int .i64 (i : Int)) rfl).chain S6.out (fun b e => e ▸ HGE.out.1) S6.out.size
      have hB2 : Tab64 fp5 ((W6.setCell ⟨gA, pN, none⟩ (.int .i64 (i : Int))).setCell ⟨gB, pN, none⟩ (.bool true)) gB 77 fun p => .bool (updF tb pN true p) := hB1.set hpN fun q' hq' => by unfold updF; split <;> rfl
      have hA2 := hA1.keep (Turn.of_setCell (fp := fun x => x = gB) ⟨gB, pN, none⟩ (.bool true) rfl) HNE.out
      have hs2 := hs1.keep (Turn.of_setCell (fp := fun x => x = gB) ⟨gB, pN, none⟩ (.bool true) rfl) (fun b e hf => RB6.out.safe (e ▸ hf))
      have hbl2 := (Turn.of_setCell (fp := fun x => x = gB) ⟨gB, pN, none⟩ (.bool true) rfl).chain hbl1 (fun b e => e ▸ HGE.out.2) hbl1.size
      rw [← HW7.out] at hA2 hB2 hs2 hbl2
      have S7 := Lib.hid hbl2
      have C7 := Lib.hid hs2
      have RA7 := Lib.hid hA2
      have RB7 := Lib.hid hB2
      clear hA1 hB1 hs1 hbl1 hB2 hA2 hs2 hbl2 S6 C6 RA6 RB6
      obtain ⟨β, HBT⟩ : ∃ β : Int, Hid (bits .and .i64 (x1 / 2 ^ (i % 60)) 1 = β) := ⟨_, rfl⟩
      have hβ : β = 0 ∨ β = 1 := by
        rw [← HBT.out, i64_and1]
        omega
      rcases hβ with rfl | rfl
      · have HR9 : Hid (∃ fp s ta tb, PlR w W7 g gc gA gB (i + 1) (l + 1) fp s ta tb) := ⟨_, s3, _, _, C7.out, HPI.out, HCO.out, HCM.out, HCT.out, RA7.out, RB7.out, S7.out⟩
        clear S7 C7 RA7 RB7
        go_wp2_with (simp only [HBT.out])
        rw [← HW7.out]
        go_roundw
        case rel => exact ⟨i + 1, l + 1, by go_num, by go_num, by omega, by omega, HR9⟩
        case measure => simp [intOf]; omega
      · have htb : updF tb pN true (k * 4 + q) = true := by rw [HPN.out]; exact updF_same _ _ _
        obtain ⟨s4, q1, q2, q3, q4⟩ := HPI.out.drop HKQ.out.1 HKQ.out.2 htb
        rw [show pno 4 k q = (pN : Int) from by unfold pno; rw [HPN.out]] at q1
        rw [HPN.out] at q4
        have CD := Lib.hid (sdrop_any (pN : Int) C7.out)
        rw [q1] at CD
        have HQ2 := Lib.hid q2
        have HQ4 := Lib.hid q4
        have HQ3 : Hid (cntN s4 = l) := by show _ = _; have := HCT.out; omega
        clear htb q1 q2 q3 q4
        go_wp2_with (simp only [HBT.out])
        rw [← HW7.out]
        clear cA fA cB fB cB2 fB2 HW7
        refine CD.out.mono ?_
        rintro e W8 ⟨v8, fp8, rfl, he8, hs8, hm8⟩
        obtain rfl := he8.nil
        have S8 := Lib.hid (hm8.below S7.out C7.out.ge S7.out.size)
        have C8 := Lib.hid hs8
        have RA8 := Lib.hid (RA7.out.step hm8)
        have RB8 := Lib.hid (RB7.out.step hm8)
        clear he8 hs8 hm8 S7 C7 RA7 RB7 CD
        have cB : W8.cell? ⟨gB, pN, none⟩ = some (.bool (updF tb pN true pN)) := RB8.out.cell hpN
        have fB : W8.frozen? ⟨gB, pN, none⟩ = false := RB8.out.free pN
        have hB9 : Tab64 fp8 (W8.setCell ⟨gB, pN, none⟩ (.bool false)) gB 77 fun p => .bool (updF (updF tb pN true) pN false p) := RB8.out.set hpN fun q' hq' => by
          by_cases e : q' = pN
          · rw [if_pos e, e, updF_same]
          · rw [if_neg e, updF_other _ _ e]
        have hA9 := RA8.out.keep (Turn.of_setCell (fp := fun x => x = gB) ⟨gB, pN, none⟩ (.bool false) rfl) HNE.out
        have hs9 := C8.out.keep (Turn.of_setCell (fp := fun x => x = gB) ⟨gB, pN, none⟩ (.bool false) rfl) (fun b e hf => RB8.out.safe (e ▸ hf))
        have hbl9 := (Turn.of_setCell (fp := fun x => x = gB) ⟨gB, pN, none⟩ (.bool false) rfl).chain S8.out (fun b e => e ▸ HGE.out.2) S8.out.size
        have HR9 : Hid (∃ fp s ta tb, PlR w (W8.setCell ⟨gB, pN, none⟩ (.bool false)) g gc gA gB (i + 1) l fp s ta tb) := ⟨_, s4, _, _, hs9, HQ4.out, by rw [HQ2.out]; exact HCO.out, by rw [HQ2.out]; exact HCM.out, HQ3.out, hA9, hB9, hbl9⟩
        clear hB9 hA9 hs9 hbl9 S8 C8 RA8 RB8
        have l1 : (l : Int) + 1 - 1 = (l : Int) := by omega
        go_wp2_with fail
        go_roundw
        case rel => exact ⟨i + 1, l, by go_num, by go_num, by omega, by omega, HR9⟩
        case measure => simp [intOf]; omega
    · have i1 : ¬ (i : Int) < (m : Int) := by omega
      obtain ⟨fp2, s2, ta, tb, Q⟩ := HR.out
      have C3 := Lib.hid Q.st
      have RA3 := Lib.hid Q.ra
      have RB3 := Lib.hid Q.rb
      have S3 := Lib.hid Q.b
      have HOPS := Lib.hid Q.ops
      have HMIS := Lib.hid Q.mis
      obtain ⟨s4, q1, q2, q3, q4⟩ := Q.pi.lost (by omega)
      have HMG := Lib.hid Q.pi.si.sw.may
      have HNEW := Lib.hid q1
      have HPL := Lib.hid q2
      have HM4 : Hid (s4.c.misuse = 0) := q3.trans HMIS.out
      have HO4 : Hid (s4.c.ops ≤ 300) := by show _ ≤ _; have := HOPS.out; omega
      obtain ⟨nn, _, hsn⟩ := Q.st
      have CN := Lib.hid (needed_any hsn)
      have hnl := needed_len Q.pi.si
      rw [Q.cnt] at hnl
      obtain ⟨xs, HXS⟩ : ∃ xs, Hid (neededS s2 = xs) := ⟨_, rfl⟩
      rw [HXS.out] at CN hnl
      have HNL := Lib.hid hnl
      clear Q q1 q2 q3 q4 hsn hnl HR HXS
      go_wp2_with fail
      refine CN.out.mono ?_
      rintro e W4 ⟨A4, n4, c4, rfl, hr4, hb4⟩
      obtain rfl : l = n4 := by rw [← HNL.out]; exact Kind.Row.len hr4.out
      have S4 := Lib.hid (below_chain S3.out hb4.out)
      have C4 := Lib.hid (C3.out.since hb4.out)
      have RA4 := Lib.hid (RA3.out.since hb4.out)
      have RB4 := Lib.hid (RB3.out.since hb4.out)
      clear hr4 hb4 S3 C3 RA3 RB3 CN
      obtain ⟨fc4, hc4, hf4⟩ := C4.out.chip
      have CL := Lib.hid (lost_ok s4 HMG.out HNEW.out HT.out HW.out S4.out (Nat.le_refl _) (by have := HOPS.out; omega) hc4)
      have HF4 := Lib.hid hf4
      clear hc4 hf4
      go_wp2_with fail
      refine CL.out.mono ?_
      rintro e W5 ⟨gt, fp5, rfl, hs5, hm5⟩
      have M5 := hm5.widen HF4.out
      have HQ0 : Hid (∃ fp s, QlR w W5 gt gc gA gB i 0 ta tb fp s) := ⟨fp5, s4, hs5, HPL.out, HO4.out, HM4.out, RA4.out.step M5, RB4.out.step M5, M5.below S4.out C4.out.ge S4.out.size⟩
      clear hs5 hm5 M5 CL S4 C4 RA4 RB4 HF4 HMG HNEW HPL HM4 HO4 HOPS HMIS
      go_wp2_with fail
      go_loopw [17] (fun t17 wq => ∃ (p : Nat), t17 = .int .i64 (p : Int) ∧ p ≤ 64 ∧ Hid (∃ fp s, QlR w wq gt gc gA gB i p ta tb fp s)) (fun t17 _ => 64 - (intOf t17).toNat)
      case atStart => exact ⟨0, rfl, by omega, HQ0⟩
      case round =>
        obtain ⟨p, rfl, hp, HQ⟩ := hrel
        have p0 : (0 : Int) ≤ (p : Int) := by omega
        by_cases hlp : p < 64
        · have p1 : (p : Int) < 64 := by omega
          obtain ⟨fp3, s3, Q⟩ := HQ.out
          have C6 := Lib.hid Q.st
          have RA6 := Lib.hid Q.ra
          have RB6 := Lib.hid Q.rb
          have S6 := Lib.hid Q.b
          have HOPS := Lib.hid Q.ops
          have HMIS := Lib.hid Q.mis
          obtain ⟨s5, ee, rr, g1, g2, g3, g4, g5⟩ := Q.pl.get (by omega) hlp
          have HG1 := Lib.hid g1
          have HG2 := Lib.hid g2
          have HOP5 : Hid (s5.c.ops ≤ 300 + (p + 1)) := by show _ ≤ _; have := HOPS.out; omega
          have HMI5 : Hid (s5.c.misuse = 0) := g4.trans HMIS.out
          have HG5 := Lib.hid g5
          obtain ⟨nn, _, hsn⟩ := Q.st
          have CH := Lib.hid (head_any (p : Int) (keyOk (by omega) (by omega)) hsn)
          have CG : Hid (∀ W fp2, Below w.heap.size w W → StoreAt W w.heap.size fp2 gt gc s3 → Calls Tryz.prog 29 #[.pointer (some ⟨gt, 0, none⟩), .int .i64 (p : Int)] W (SGet W w.heap.size fp2 gt gc (s5, ee, rr))) := fun W fp2 hb hs => by
            have := sget_any (p : Int) HT.out HW.out hb (Nat.le_refl _) (by have := HOPS.out; omega) hs
            rw [HG1.out] at this
            exact this
          clear Q g1 g2 g3 g4 g5 hsn HQ HG1
          obtain ⟨bb, HBB⟩ : ∃ bb, Hid (tb p = bb) := ⟨_, rfl⟩
          have cB := RB6.out.cell hlp
          cases bb with
          | false =>
            obtain ⟨K1, A1, S1, G1, hv1⟩ := hdO_cells (s3.hd (p : Int))
            obtain ⟨o1, HO1⟩ : ∃ o1, Hid ((s3.hd (p : Int)).isSome = o1) := ⟨_, rfl⟩
            rw [hv1, HO1.out] at CH
            clear hv1 HO1 HG5
            go_wp2_with fail
            refine CH.out.mono ?_
            rintro e W7 ⟨rfl, hb7⟩
            have S7 := Lib.hid (below_chain S6.out hb7.out)
            have C7 := Lib.hid (C6.out.since hb7.out)
            have RA7 := Lib.hid (RA6.out.since hb7.out)
            have RB7 := Lib.hid (RB6.out.since hb7.out)
            clear cB hb7 S6 C6 RA6 RB6 CH
            obtain ⟨W8, HW8⟩ : ∃ W8, Hid (W8 = W7.alloc (.cells #[.int .i64 K1, .int .u64 A1, .int .i64 S1, .int .i64 G1] 42)) := ⟨_, rfl⟩
            have hb8 : Below W7.heap.size W7 W8 := by rw [HW8.out]; exact (Below.refl _ _).alloc (Nat.le_refl _) _
            have H8 := Lib.hid (RestC.new W7 #[.int .i64 K1, .int .u64 A1, .int .i64 S1, .int .i64 G1] 42 C7.out.lt)
            rw [← HW8.out] at H8
            have S8 := Lib.hid (below_chain S7.out hb8)
            have C8 := Lib.hid (C7.out.since hb8)
            have RA8 := Lib.hid (RA7.out.since hb8)
            have RB8 := Lib.hid (RB7.out.since hb8)
            clear hb8 S7 C7 RA7 RB7
            go_wp2_with fail
            rw [← HW8.out]
            clear HW8
            refine (CG.out W8 _ S8.out C8.out).mono ?_
            rintro e W9 ⟨x9, y9, v9, fp9, rfl, he9, hr9, hs9, hm9⟩
            obtain ⟨K2, A2, S2, G2, rfl⟩ := hr9.head
            have S9 := Lib.hid (hm9.below S8.out C8.out.ge S8.out.size)
            have C9 := Lib.hid hs9
            have RA9 := Lib.hid (RA8.out.step hm9)
            have RB9 := Lib.hid (RB8.out.step hm9)
            have H9 := Lib.hid (H8.out.step hm9)
            clear he9 hr9 hs9 hm9 S8 C8 RA8 RB8 H8 CG
            obtain ⟨W10, HW10⟩ : ∃ W10, Hid (W10 = W9.alloc (.cells #[.int .i64 K2, .int .u64 A2, .int .i64 S2, .int .i64 G2] 42)) := ⟨_, rfl⟩
            have hb10 : Below W9.heap.size W9 W10 := by rw [HW10.out]; exact (Below.refl _ _).alloc (Nat.le_refl _) _
            have S10 := Lib.hid (below_chain S9.out hb10)
            have C10 := Lib.hid (C9.out.since hb10)
            have RA10 := Lib.hid (RA9.out.since hb10)
            have RB10 := Lib.hid (RB9.out.since hb10)
            have H10 := Lib.hid (H9.out.since hb10)
            clear hb10 S9 C9 RA9 RB9 H9
            have cB : ∀ W, Below W10.heap.size W10 W → W.cell? ⟨gB, p, none⟩ = some (.bool false) := fun W hb => by
              have := (RB10.out.since hb).cell hlp
              rwa [HBB.out] at this
            have HCB := Lib.hid cB
            clear cB
            go_wp2_with fail
            rw [← HW10.out]
            clear HW10
            refine region_of_steps7 (by kernel_rfl) [some (.int .i64 (p : Int)), some (.pointer (some ⟨gB, p, none⟩)), some (.bool false), some (.bool false), some undef, some undef, some undef, some undef, some undef, some undef, some undef, some undef, some undef, some undef, some undef, some undef, some undef, some undef, some undef, some undef, some undef, some undef, some undef, some undef, some undef, some undef, some undef, some undef, some (.bool false)] [] [] (FillJ W10 [] 0) (by kernel_rfl) (by kernel_rfl) ⟨(Below.refl _ _).drew, fun e => by cases e⟩ ?_ ?_
            · refine Steps7.cons ?_ (Steps7.cons ?_ (Steps7.cons ?_ (Steps7.cons ?_ (Steps7.cons ?_ (Steps7.cons ?_ (Steps7.cons ?_ (Steps7.cons ?_ (Steps7.cons ?_ (Steps7.cons ?_ (Steps7.cons ?_ (Steps7.cons ?_ (Steps7.cons ?_ (Steps7.cons ?_ (Steps7.cons ?_ (Steps7.cons ?_ (Steps7.cons ?_ (Steps7.cons ?_ (Steps7.cons ?_ (Steps7.cons ?_ (Steps7.cons ?_ (Steps7.cons ?_ (Steps7.cons ?_ (Steps7.cons ?_ (Steps7.cons ?_ (Steps7.cons ?_ (Steps7.cons ?_ (Steps7.cons ?_ (Steps7.cons ?_ (Steps7.nil)))))))))))))))))))))))))))))
              · intro listed a W H hj hl hd
                have t17 : a.tmps.getD 17 undef = .int .i64 (p : Int) := (H.old 17 (by kernel_rfl)).trans rfl
                exact step7_value (i := 0) rfl rfl (run_op_move rfl t17) (calm7 (fun fs vs x y h hl => FillJ.later h hl) (by kernel_rfl) (by kernel_rfl) hj (later_refl _)) rfl
              · intro listed a W H hj hl hd
                have t9 : a.tmps.getD 9 undef = .pointer (some ⟨gB, 0, none⟩) := (H.old 9 (by kernel_rfl)).trans rfl
                have t135 : a.tmps.getD 135 undef = .int .i64 (p : Int) := H.get 0 135 (by kernel_rfl) (dep_of hd 0 (by kernel_rfl)) (fun _ h => by cases h)
                exact step7_value (i := 1) rfl rfl (run_op_index rfl t9 t135 (run_index_b64 gB p hlp W)) (calm7 (fun fs vs x y h hl => FillJ.later h hl) (by kernel_rfl) (by kernel_rfl) hj (later_refl _)) rfl
              · intro listed a W H hj hl hd
                have t136 : a.tmps.getD 136 undef = .pointer (some ⟨gB, p, none⟩) := H.get 1 136 (by kernel_rfl) (dep_of hd 1 (by kernel_rfl)) (fun _ h => by cases h)
                exact step7_value (i := 2) rfl rfl (run_op_load rfl t136 (run_load_b64 _ _ W (HCB.out W hj.below))) (calm7 (fun fs vs x y h hl => FillJ.later h hl) (by kernel_rfl) (by kernel_rfl) hj (later_refl _)) rfl
              · intro listed a W H hj hl hd
                have t137 : a.tmps.getD 137 undef = .bool false := H.get 2 137 (by kernel_rfl) (dep_of hd 2 (by kernel_rfl)) (fun _ h => by cases h)
                exact step7_value (i := 3) rfl rfl (run_op_move rfl t137) (calm7 (fun fs vs x y h hl => FillJ.later h hl) (by kernel_rfl) (by kernel_rfl) hj (later_refl _)) rfl
              · intro listed a W H hj hl hd
                have t138 : a.tmps.getD 138 undef = .bool false := H.get 3 138 (by kernel_rfl) (dep_of hd 3 (by kernel_rfl)) (fun _ h => by cases h)
                exact step7_skip (i := 4) rfl (unwanted_at (j := 3) (d := 138) (b := true) (c := false) rfl (by kernel_rfl) t138 rfl) (calm7 (fun fs vs x y h hl => FillJ.later h hl) (by kernel_rfl) (by kernel_rfl) hj (later_refl _)) rfl
              · intro listed a W H hj hl hd
                have t138 : a.tmps.getD 138 undef = .bool false := H.get 3 138 (by kernel_rfl) (dep_of hd 3 (by kernel_rfl)) (fun _ h => by cases h)
                exact step7_skip (i := 5) rfl (unwanted_at (j := 3) (d := 138) (b := true) (c := false) rfl (by kernel_rfl) t138 rfl) (calm7 (fun fs vs x y h hl => FillJ.later h hl) (by kernel_rfl) (by kernel_rfl) hj (later_refl _)) rfl
              · intro listed a W H hj hl hd
                have t138 : a.tmps.getD 138 undef = .bool false := H.get 3 138 (by kernel_rfl) (dep_of hd 3 (by kernel_rfl)) (fun _ h => by cases h)
                exact step7_skip (i := 6) rfl (unwanted_at (j := 3) (d := 138) (b := true) (c := false) rfl (by kernel_rfl) t138 rfl) (calm7 (fun fs vs x y h hl => FillJ.later h hl) (by kernel_rfl) (by kernel_rfl) hj (later_refl _)) rfl
              · intro listed a W H hj hl hd
                have t141 : a.tmps.getD 141 undef = undef := H.get 6 141 (by kernel_rfl) (dep_of hd 6 (by kernel_rfl)) (fun _ h => by cases h)
                exact step7_skip (i := 7) rfl (unwanted_none (j := 6) (d := 141) (b := false) rfl (by kernel_rfl) t141) (calm7 (fun fs vs x y h hl => FillJ.later h hl) (by kernel_rfl) (by kernel_rfl) hj (later_refl _)) rfl
              · intro listed a W H hj hl hd
                have t141 : a.tmps.getD 141 undef = undef := H.get 6 141 (by kernel_rfl) (dep_of hd 6 (by kernel_rfl)) (fun _ h => by cases h)
                exact step7_skip (i := 8) rfl (unwanted_none (j := 6) (d := 141) (b := false) rfl (by kernel_rfl) t141) (calm7 (fun fs vs x y h hl => FillJ.later h hl) (by kernel_rfl) (by kernel_rfl) hj (later_refl _)) rfl
              · intro listed a W H hj hl hd
                have t138 : a.tmps.getD 138 undef = .bool false := H.get 3 138 (by kernel_rfl) (dep_of hd 3 (by kernel_rfl)) (fun _ h => by cases h)
                exact step7_skip (i := 9) rfl (unwanted_at (j := 3) (d := 138) (b := true) (c := false) rfl (by kernel_rfl) t138 rfl) (calm7 (fun fs vs x y h hl => FillJ.later h hl) (by kernel_rfl) (by kernel_rfl) hj (later_refl _)) rfl
              · intro listed a W H hj hl hd
                have t138 : a.tmps.getD 138 undef = .bool false := H.get 3 138 (by kernel_rfl) (dep_of hd 3 (by kernel_rfl)) (fun _ h => by cases h)
                exact step7_skip (i := 10) rfl (unwanted_at (j := 3) (d := 138) (b := true) (c := false) rfl (by kernel_rfl) t138 rfl) (calm7 (fun fs vs x y h hl => FillJ.later h hl) (by kernel_rfl) (by kernel_rfl) hj (later_refl _)) rfl
              · intro listed a W H hj hl hd
                have t145 : a.tmps.getD 145 undef = undef := H.get 10 145 (by kernel_rfl) (dep_of hd 10 (by kernel_rfl)) (fun _ h => by cases h)
                exact step7_skip (i := 11) rfl (unwanted_none (j := 10) (d := 145) (b := false) rfl (by kernel_rfl) t145) (calm7 (fun fs vs x y h hl => FillJ.later h hl) (by kernel_rfl) (by kernel_rfl) hj (later_refl _)) rfl
              · intro listed a W H hj hl hd
                have t145 : a.tmps.getD 145 undef = undef := H.get 10 145 (by kernel_rfl) (dep_of hd 10 (by kernel_rfl)) (fun _ h => by cases h)
                exact step7_skip (i := 12) rfl (unwanted_none (j := 10) (d := 145) (b := false) rfl (by kernel_rfl) t145) (calm7 (fun fs vs x y h hl => FillJ.later h hl) (by kernel_rfl) (by kernel_rfl) hj (later_refl _)) rfl
              · intro listed a W H hj hl hd
                have t145 : a.tmps.getD 145 undef = undef := H.get 10 145 (by kernel_rfl) (dep_of hd 10 (by kernel_rfl)) (fun _ h => by cases h)
                exact step7_skip (i := 13) rfl (unwanted_none (j := 10) (d := 145) (b := false) rfl (by kernel_rfl) t145) (calm7 (fun fs vs x y h hl => FillJ.later h hl) (by kernel_rfl) (by kernel_rfl) hj (later_refl _)) rfl
              · intro listed a W H hj hl hd
                have t145 : a.tmps.getD 145 undef = undef := H.get 10 145 (by kernel_rfl) (dep_of hd 10 (by kernel_rfl)) (fun _ h => by cases h)
                exact step7_skip (i := 14) rfl (unwanted_none (j := 10) (d := 145) (b := false) rfl (by kernel_rfl) t145) (calm7 (fun fs vs x y h hl => FillJ.later h hl) (by kernel_rfl) (by kernel_rfl) hj (later_refl _)) rfl
              · intro listed a W H hj hl hd
                have t145 : a.tmps.getD 145 undef = undef := H.get 10 145 (by kernel_rfl) (dep_of hd 10 (by kernel_rfl)) (fun _ h => by cases h)
                exact step7_skip (i := 15) rfl (unwanted_none (j := 10) (d := 145) (b := false) rfl (by kernel_rfl) t145) (calm7 (fun fs vs x y h hl => FillJ.later h hl) (by kernel_rfl) (by kernel_rfl) hj (later_refl _)) rfl
              · intro listed a W H hj hl hd
                have t145 : a.tmps.getD 145 undef = undef := H.get 10 145 (by kernel_rfl) (dep_of hd 10 (by kernel_rfl)) (fun _ h => by cases h)
                exact step7_skip (i := 16) rfl (unwanted_none (j := 10) (d := 145) (b := false) rfl (by kernel_rfl) t145) (calm7 (fun fs vs x y h hl => FillJ.later h hl) (by kernel_rfl) (by kernel_rfl) hj (later_refl _)) rfl
              · intro listed a W H hj hl hd
                have t145 : a.tmps.getD 145 undef = undef := H.get 10 145 (by kernel_rfl) (dep_of hd 10 (by kernel_rfl)) (fun _ h => by cases h)
                exact step7_skip (i := 17) rfl (unwanted_none (j := 10) (d := 145) (b := false) rfl (by kernel_rfl) t145) (calm7 (fun fs vs x y h hl => FillJ.later h hl) (by kernel_rfl) (by kernel_rfl) hj (later_refl _)) rfl
              · intro listed a W H hj hl hd
                have t138 : a.tmps.getD 138 undef = .bool false := H.get 3 138 (by kernel_rfl) (dep_of hd 3 (by kernel_rfl)) (fun _ h => by cases h)
                exact step7_skip (i := 18) rfl (unwanted_at (j := 3) (d := 138) (b := true) (c := false) rfl (by kernel_rfl) t138 rfl) (calm7 (fun fs vs x y h hl => FillJ.later h hl) (by kernel_rfl) (by kernel_rfl) hj (later_refl _)) rfl
              · intro listed a W H hj hl hd
                have t138 : a.tmps.getD 138 undef = .bool false := H.get 3 138 (by kernel_rfl) (dep_of hd 3 (by kernel_rfl)) (fun _ h => by cases h)
                exact step7_skip (i := 19) rfl (unwanted_at (j := 3) (d := 138) (b := true) (c := false) rfl (by kernel_rfl) t138 rfl) (calm7 (fun fs vs x y h hl => FillJ.later h hl) (by kernel_rfl) (by kernel_rfl) hj (later_refl _)) rfl
              · intro listed a W H hj hl hd
                have t154 : a.tmps.getD 154 undef = undef := H.get 19 154 (by kernel_rfl) (dep_of hd 19 (by kernel_rfl)) (fun _ h => by cases h)
                exact step7_skip (i := 20) rfl (unwanted_none (j := 19) (d := 154) (b := false) rfl (by kernel_rfl) t154) (calm7 (fun fs vs x y h hl => FillJ.later h hl) (by kernel_rfl) (by kernel_rfl) hj (later_refl _)) rfl
              · intro listed a W H hj hl hd
                have t154 : a.tmps.getD 154 undef = undef := H.get 19 154 (by kernel_rfl) (dep_of hd 19 (by kernel_rfl)) (fun _ h => by cases h)
                exact step7_skip (i := 21) rfl (unwanted_none (j := 19) (d := 154) (b := false) rfl (by kernel_rfl) t154) (calm7 (fun fs vs x y h hl => FillJ.later h hl) (by kernel_rfl) (by kernel_rfl) hj (later_refl _)) rfl
              · intro listed a W H hj hl hd
                have t154 : a.tmps.getD 154 undef = undef := H.get 19 154 (by kernel_rfl) (dep_of hd 19 (by kernel_rfl)) (fun _ h => by cases h)
                exact step7_skip (i := 22) rfl (unwanted_none (j := 19) (d := 154) (b := false) rfl (by kernel_rfl) t154) (calm7 (fun fs vs x y h hl => FillJ.later h hl) (by kernel_rfl) (by kernel_rfl) hj (later_refl _)) rfl
              · intro listed a W H hj hl hd
                have t154 : a.tmps.getD 154 undef = undef := H.get 19 154 (by kernel_rfl) (dep_of hd 19 (by kernel_rfl)) (fun _ h => by cases h)
                exact step7_skip (i := 23) rfl (unwanted_none (j := 19) (d := 154) (b := false) rfl (by kernel_rfl) t154) (calm7 (fun fs vs x y h hl => FillJ.later h hl) (by kernel_rfl) (by kernel_rfl) hj (later_refl _)) rfl
              · intro listed a W H hj hl hd
                have t154 : a.tmps.getD 154 undef = undef := H.get 19 154 (by kernel_rfl) (dep_of hd 19 (by kernel_rfl)) (fun _ h => by cases h)
                exact step7_skip (i := 24) rfl (unwanted_none (j := 19) (d := 154) (b := false) rfl (by kernel_rfl) t154) (calm7 (fun fs vs x y h hl => FillJ.later h hl) (by kernel_rfl) (by kernel_rfl) hj (later_refl _)) rfl
              · intro listed a W H hj hl hd
                have t154 : a.tmps.getD 154 undef = undef := H.get 19 154 (by kernel_rfl) (dep_of hd 19 (by kernel_rfl)) (fun _ h => by cases h)
                exact step7_skip (i := 25) rfl (unwanted_none (j := 19) (d := 154) (b := false) rfl (by kernel_rfl) t154) (calm7 (fun fs vs x y h hl => FillJ.later h hl) (by kernel_rfl) (by kernel_rfl) hj (later_refl _)) rfl
              · intro listed a W H hj hl hd
                have t154 : a.tmps.getD 154 undef = undef := H.get 19 154 (by kernel_rfl) (dep_of hd 19 (by kernel_rfl)) (fun _ h => by cases h)
                exact step7_skip (i := 26) rfl (unwanted_none (j := 19) (d := 154) (b := false) rfl (by kernel_rfl) t154) (calm7 (fun fs vs x y h hl => FillJ.later h hl) (by kernel_rfl) (by kernel_rfl) hj (later_refl _)) rfl
              · intro listed a W H hj hl hd
                have t138 : a.tmps.getD 138 undef = .bool false := H.get 3 138 (by kernel_rfl) (dep_of hd 3 (by kernel_rfl)) (fun _ h => by cases h)
                exact step7_skip (i := 27) rfl (unwanted_at (j := 3) (d := 138) (b := true) (c := false) rfl (by kernel_rfl) t138 rfl) (calm7 (fun fs vs x y h hl => FillJ.later h hl) (by kernel_rfl) (by kernel_rfl) hj (later_refl _)) rfl
              · intro listed a W H hj hl hd
                have t138 : a.tmps.getD 138 undef = .bool false := H.get 3 138 (by kernel_rfl) (dep_of hd 3 (by kernel_rfl)) (fun _ h => by cases h)
                exact step7_value (i := 28) rfl rfl (run_op_pickF rfl t138 rfl) (calm7 (fun fs vs x y h hl => FillJ.later h hl) (by kernel_rfl) (by kernel_rfl) hj (later_refl _)) rfl
            · intro a WC hdef hsz hw hall hact
              obtain ⟨u, hu⟩ : ∃ u : Nat → Value, ∀ k, a.tmps.getD k undef = u k := ⟨_, fun _ => rfl⟩
              have h163 : u 163 = .bool false := by rw [← hu]; exact hall 28 _ rfl
              simp only [hu] at hact
              have hact' : a = ([135, 136, 137, 138, 139, 140, 141, 142, 143, 144, 145, 146, 147, 148, 149, 150, 151, 152, 153, 154, 155, 156, 157, 158, 159, 160, 161, 162, 163] : List Nat).foldl (fun b k => b.put (some k) (u k)) _ := hact
              simp only [List.foldl] at hact'
              simp only [Act.put, List.setIfInBounds_toArray, List.set_cons_succ, List.set_cons_zero] at hact'
              have HAC := Lib.hid hact'
              have HX := Lib.hid hw
              clear hact hact' hall hdef hsz hw
              rw [h163] at HAC
              rw [HAC.out]
              have hbl : Below W10.heap.size W10 WC := HX.out.below
              have HR9 : Hid (∃ fp s, QlR w WC gt gc gA gB i (p + 1) ta tb fp s) := ⟨_, s5, C10.out.since hbl, HG2.out, HOP5.out, HMI5.out, RA10.out.since hbl, RB10.out.since hbl, below_chain S10.out hbl⟩
              clear hbl HX HAC hu S10 C10 RA10 RB10 H10
              go_wp2_with fail
              go_roundw
              case rel => exact ⟨p + 1, by go_num, by omega, HR9⟩
              case measure => simp [intOf]; omega
          | true =>
            obtain ⟨j, HJ⟩ : ∃ j : Nat, Hid (ta p = j) := ⟨_, rfl⟩
            obtain ⟨h1, h2, h3, h4⟩ := HG5.out HBB.out
            rw [HJ.out] at h1 h3 h4
            subst h2 h3
            rw [h4] at CH
            have hv : hdO (some (hdP j)) = .agg #[.int .i64 2, .int .u64 (j : Int), .int .i64 (1 + (j : Int)), .int .i64 0] := hdV_P j
            rw [hv, show (some (hdP j)).isSome = true from rfl] at CH
            clear h4 hv HG5
            go_wp2_with fail
            refine CH.out.mono ?_
            rintro e W7 ⟨rfl, hb7⟩
            have S7 := Lib.hid (below_chain S6.out hb7.out)
            have C7 := Lib.hid (C6.out.since hb7.out)
            have RA7 := Lib.hid (RA6.out.since hb7.out)
            have RB7 := Lib.hid (RB6.out.since hb7.out)
            clear cB hb7 S6 C6 RA6 RB6 CH
            obtain ⟨W8, HW8⟩ : ∃ W8, Hid (W8 = W7.alloc (.cells #[.int .i64 2, .int .u64 (j : Int), .int .i64 (1 + (j : Int)), .int .i64 0] 42)) := ⟨_, rfl⟩
            have hb8 : Below W7.heap.size W7 W8 := by rw [HW8.out]; exact (Below.refl _ _).alloc (Nat.le_refl _) _
            have H8 := Lib.hid (RestC.new W7 #[.int .i64 2, .int .u64 (j : Int), .int .i64 (1 + (j : Int)), .int .i64 0] 42 C7.out.lt)
            rw [← HW8.out] at H8
            have S8 := Lib.hid (below_chain S7.out hb8)
            have C8 := Lib.hid (C7.out.since hb8)
            have RA8 := Lib.hid (RA7.out.since hb8)
            have RB8 := Lib.hid (RB7.out.since hb8)
            clear hb8 S7 C7 RA7 RB7
            go_wp2_with fail
            rw [← HW8.out]
            clear HW8
            refine (CG.out W8 _ S8.out C8.out).mono ?_
            rintro e W9 ⟨x9, y9, v9, fp9, rfl, he9, ⟨A9, n9, c9, rfl, hr9, rfl⟩, hs9, hm9⟩
            obtain rfl := he9.nil
            rw [hdV_P]
            obtain rfl : 128 = n9 := by rw [← hr9.own.bytes.len, fillL_len]
            have S9 := Lib.hid (hm9.below S8.out C8.out.ge S8.out.size)
            have C9 := Lib.hid hs9
            have RA9 := Lib.hid (RA8.out.step hm9)
            have RB9 := Lib.hid (RB8.out.step hm9)
            have H9 := Lib.hid (H8.out.step hm9)
            have D9 := Lib.hid hr9
            clear he9 hr9 hs9 hm9 S8 C8 RA8 RB8 H8 CG
            obtain ⟨W10, HW10⟩ : ∃ W10, Hid (W10 = W9.alloc (.cells #[.int .i64 2, .int .u64 (j : Int), .int .i64 (1 + (j : Int)), .int .i64 0] 42)) := ⟨_, rfl⟩
            have hb10 : Below W9.heap.size W9 W10 := by rw [HW10.out]; exact (Below.refl _ _).alloc (Nat.le_refl _) _
            have S10 := Lib.hid (below_chain S9.out hb10)
            have C10 := Lib.hid (C9.out.since hb10)
            have RA10 := Lib.hid (RA9.out.since hb10)
            have RB10 := Lib.hid (RB9.out.since hb10)
            have H10 := Lib.hid (H9.out.since hb10)
            have D10 := Lib.hid (D9.out.since hb10)
            clear hb10 S9 C9 RA9 RB9 H9 D9
            have cB : ∀ W, Below W10.heap.size W10 W → W.cell? ⟨gB, p, none⟩ = some (.bool true) := fun W hb => by
              have := (RB10.out.since hb).cell hlp
              rwa [HBB.out] at this
            have HCB := Lib.hid cB
            clear cB
            have cA : ∀ W, Below W10.heap.size W10 W → W.cell? ⟨gA, p, none⟩ = some (.int .i64 (j : Int)) := fun W hb => by
              have := (RA10.out.since hb).cell hlp
              rwa [HJ.out] at this
            have HCA := Lib.hid cA
            clear cA
            go_wp2_with fail
            rw [← HW10.out]
            clear HW10
            refine region_of_steps7 (by kernel_rfl) [some (.int .i64 (p : Int)), some (.pointer (some ⟨gB, p, none⟩)), some (.bool true), some (.bool true), some (.bool true), some (.bool false), some (.bool false), some (.nilIface), some (.bool false), some (.bool false), some (.bool false), some (.pointer (some ⟨W7.heap.size, 2, none⟩)), some (.int .i64 (1 + (j : Int))), some (.int .i64 (p : Int)), some (.pointer (some ⟨gA, p, none⟩)), some (.int .i64 (j : Int)), some (.int .i64 (1 + (j : Int))), some (.bool false), some (.bool false), some (.bool false), some (.slice A9 128 c9), some (.int .i64 (p : Int)), some (.pointer (some ⟨gA, p, none⟩)), some (.int .i64 (j : Int)), none, some (.bool true), some (.bool false), some (.bool false), some (.bool false)] [24] [159] (FillJ W10 (fillL (j : Int) 128) 128) (by kernel_rfl) (by kernel_rfl) ⟨(Below.refl _ _).drew, fun e => by cases e⟩ ?_ ?_
            · refine Steps7.cons ?_ (Steps7.cons ?_ (Steps7.cons ?_ (Steps7.cons ?_ (Steps7.cons ?_ (Steps7.cons ?_ (Steps7.cons ?_ (Steps7.cons ?_ (Steps7.cons ?_ (Steps7.cons ?_ (Steps7.cons ?_ (Steps7.cons ?_ (Steps7.cons ?_ (Steps7.cons ?_ (Steps7.cons ?_ (Steps7.cons ?_ (Steps7.cons ?_ (Steps7.cons ?_ (Steps7.cons ?_ (Steps7.cons ?_ (Steps7.cons ?_ (Steps7.cons ?_ (Steps7.cons ?_ (Steps7.cons ?_ (Steps7.cons ?_ (Steps7.cons ?_ (Steps7.cons ?_ (Steps7.cons ?_ (Steps7.cons ?_ (Steps7.nil)))))))))))))))))))))))))))))
              · intro listed a W H hj hl hd
                have t17 : a.tmps.getD 17 undef = .int .i64 (p : Int) := (H.old 17 (by kernel_rfl)).trans rfl
                exact step7_value (i := 0) rfl rfl (run_op_move rfl t17) (calm7 (fun fs vs x y h hl => FillJ.later h hl) (by kernel_rfl) (by kernel_rfl) hj (later_refl _)) rfl
              · intro listed a W H hj hl hd
                have t9 : a.tmps.getD 9 undef = .pointer (some ⟨gB, 0, none⟩) := (H.old 9 (by kernel_rfl)).trans rfl
                have t135 : a.tmps.getD 135 undef = .int .i64 (p : Int) := H.get 0 135 (by kernel_rfl) (dep_of hd 0 (by kernel_rfl)) (fun _ h => by cases h)
                exact step7_value (i := 1) rfl rfl (run_op_index rfl t9 t135 (run_index_b64 gB p hlp W)) (calm7 (fun fs vs x y h hl => FillJ.later h hl) (by kernel_rfl) (by kernel_rfl) hj (later_refl _)) rfl
              · intro listed a W H hj hl hd
                have t136 : a.tmps.getD 136 undef = .pointer (some ⟨gB, p, none⟩) := H.get 1 136 (by kernel_rfl) (dep_of hd 1 (by kernel_rfl)) (fun _ h => by cases h)
                exact step7_value (i := 2) rfl rfl (run_op_load rfl t136 (run_load_b64 _ _ W (HCB.out W hj.below))) (calm7 (fun fs vs x y h hl => FillJ.later h hl) (by kernel_rfl) (by kernel_rfl) hj (later_refl _)) rfl
              · intro listed a W H hj hl hd
                have t137 : a.tmps.getD 137 undef = .bool true := H.get 2 137 (by kernel_rfl) (dep_of hd 2 (by kernel_rfl)) (fun _ h => by cases h)
                exact step7_value (i := 3) rfl rfl (run_op_move rfl t137) (calm7 (fun fs vs x y h hl => FillJ.later h hl) (by kernel_rfl) (by kernel_rfl) hj (later_refl _)) rfl
              · intro listed a W H hj hl hd
                have t138 : a.tmps.getD 138 undef = .bool true := H.get 3 138 (by kernel_rfl) (dep_of hd 3 (by kernel_rfl)) (fun _ h => by cases h)
                have t19 : a.tmps.getD 19 undef = .bool true := (H.old 19 (by kernel_rfl)).trans rfl
                exact step7_value (i := 4) rfl (wanted_at (j := 3) (d := 138) (b := true) rfl (by kernel_rfl) t138) (run_op_move rfl t19) (calm7 (fun fs vs x y h hl => FillJ.later h hl) (by kernel_rfl) (by kernel_rfl) hj (later_refl _)) rfl
              · intro listed a W H hj hl hd
                have t138 : a.tmps.getD 138 undef = .bool true := H.get 3 138 (by kernel_rfl) (dep_of hd 3 (by kernel_rfl)) (fun _ h => by cases h)
                have t139 : a.tmps.getD 139 undef = .bool true := H.get 4 139 (by kernel_rfl) (dep_of hd 4 (by kernel_rfl)) (fun _ h => by cases h)
                exact step7_value (i := 5) rfl (wanted_at (j := 3) (d := 138) (b := true) rfl (by kernel_rfl) t138) (run_op_not rfl t139) (calm7 (fun fs vs x y h hl => FillJ.later h hl) (by kernel_rfl) (by kernel_rfl) hj (later_refl _)) rfl
              · intro listed a W H hj hl hd
                have t138 : a.tmps.getD 138 undef = .bool true := H.get 3 138 (by kernel_rfl) (dep_of hd 3 (by kernel_rfl)) (fun _ h => by cases h)
                have t140 : a.tmps.getD 140 undef = .bool false := H.get 5 140 (by kernel_rfl) (dep_of hd 5 (by kernel_rfl)) (fun _ h => by cases h)
                exact step7_value (i := 6) rfl (wanted_at (j := 3) (d := 138) (b := true) rfl (by kernel_rfl) t138) (run_op_move rfl t140) (calm7 (fun fs vs x y h hl => FillJ.later h hl) (by kernel_rfl) (by kernel_rfl) hj (later_refl _)) rfl
              · intro listed a W H hj hl hd
                have t141 : a.tmps.getD 141 undef = .bool false := H.get 6 141 (by kernel_rfl) (dep_of hd 6 (by kernel_rfl)) (fun _ h => by cases h)
                have t22 : a.tmps.getD 22 undef = .nilIface := (H.old 22 (by kernel_rfl)).trans rfl
                exact step7_value (i := 7) rfl (wanted_at (j := 6) (d := 141) (b := false) rfl (by kernel_rfl) t141) (run_op_move rfl t22) (calm7 (fun fs vs x y h hl => FillJ.later h hl) (by kernel_rfl) (by kernel_rfl) hj (later_refl _)) rfl
              · intro listed a W H hj hl hd
                have t141 : a.tmps.getD 141 undef = .bool false := H.get 6 141 (by kernel_rfl) (dep_of hd 6 (by kernel_rfl)) (fun _ h => by cases h)
                have t142 : a.tmps.getD 142 undef = .nilIface := H.get 7 142 (by kernel_rfl) (dep_of hd 7 (by kernel_rfl)) (fun _ h => by cases h)
                exact step7_value (i := 8) rfl (wanted_at (j := 6) (d := 141) (b := false) rfl (by kernel_rfl) t141) (run_op_bin rfl t142 rfl (bin_neqE _ _)) (calm7 (fun fs vs x y h hl => FillJ.later h hl) (by kernel_rfl) (by kernel_rfl) hj (later_refl _)) rfl
              · intro listed a W H hj hl hd
                have t138 : a.tmps.getD 138 undef = .bool true := H.get 3 138 (by kernel_rfl) (dep_of hd 3 (by kernel_rfl)) (fun _ h => by cases h)
                have t141 : a.tmps.getD 141 undef = .bool false := H.get 6 141 (by kernel_rfl) (dep_of hd 6 (by kernel_rfl)) (fun _ h => by cases h)
                have t143 : a.tmps.getD 143 undef = .bool false := H.get 8 143 (by kernel_rfl) (dep_of hd 8 (by kernel_rfl)) (fun _ h => by cases h)
                exact step7_value (i := 9) rfl (wanted_at (j := 3) (d := 138) (b := true) rfl (by kernel_rfl) t138) (run_op_pickF rfl t141 t143) (calm7 (fun fs vs x y h hl => FillJ.later h hl) (by kernel_rfl) (by kernel_rfl) hj (later_refl _)) rfl
              · intro listed a W H hj hl hd
                have t138 : a.tmps.getD 138 undef = .bool true := H.get 3 138 (by kernel_rfl) (dep_of hd 3 (by kernel_rfl)) (fun _ h => by cases h)
                have t144 : a.tmps.getD 144 undef = .bool false := H.get 9 144 (by kernel_rfl) (dep_of hd 9 (by kernel_rfl)) (fun _ h => by cases h)
                exact step7_value (i := 10) rfl (wanted_at (j := 3) (d := 138) (b := true) rfl (by kernel_rfl) t138) (run_op_move rfl t144) (calm7 (fun fs vs x y h hl => FillJ.later h hl) (by kernel_rfl) (by kernel_rfl) hj (later_refl _)) rfl
              · intro listed a W H hj hl hd
                have t145 : a.tmps.getD 145 undef = .bool false := H.get 10 145 (by kernel_rfl) (dep_of hd 10 (by kernel_rfl)) (fun _ h => by cases h)
                have t18 : a.tmps.getD 18 undef = .pointer (some ⟨W7.heap.size, 0, none⟩) := (H.old 18 (by kernel_rfl)).trans rfl
                exact step7_value (i := 11) rfl (wanted_at (j := 10) (d := 145) (b := false) rfl (by kernel_rfl) t145) (run_op_fieldAddr rfl t18 (by go_simp)) (calm7 (fun fs vs x y h hl => FillJ.later h hl) (by kernel_rfl) (by kernel_rfl) hj (later_refl _)) rfl
              · intro listed a W H hj hl hd
                have t145 : a.tmps.getD 145 undef = .bool false := H.get 10 145 (by kernel_rfl) (dep_of hd 10 (by kernel_rfl)) (fun _ h => by cases h)
                have t146 : a.tmps.getD 146 undef = .pointer (some ⟨W7.heap.size, 2, none⟩) := H.get 11 146 (by kernel_rfl) (dep_of hd 11 (by kernel_rfl)) (fun _ h => by cases h)
                exact step7_value (i := 12) rfl (wanted_at (j := 10) (d := 145) (b := false) rfl (by kernel_rfl) t145) (run_op_load rfl t146 (run_load_i64 _ _ W ((H10.out.since hj.below).cell 2))) (calm7 (fun fs vs x y h hl => FillJ.later h hl) (by kernel_rfl) (by kernel_rfl) hj (later_refl _)) rfl
              · intro listed a W H hj hl hd
                have t145 : a.tmps.getD 145 undef = .bool false := H.get 10 145 (by kernel_rfl) (dep_of hd 10 (by kernel_rfl)) (fun _ h => by cases h)
                have t17 : a.tmps.getD 17 undef = .int .i64 (p : Int) := (H.old 17 (by kernel_rfl)).trans rfl
                exact step7_value (i := 13) rfl (wanted_at (j := 10) (d := 145) (b := false) rfl (by kernel_rfl) t145) (run_op_move rfl t17) (calm7 (fun fs vs x y h hl => FillJ.later h hl) (by kernel_rfl) (by kernel_rfl) hj (later_refl _)) rfl
              · intro listed a W H hj hl hd
                have t145 : a.tmps.getD 145 undef = .bool false := H.get 10 145 (by kernel_rfl) (dep_of hd 10 (by kernel_rfl)) (fun _ h => by cases h)
                have t8 : a.tmps.getD 8 undef = .pointer (some ⟨gA, 0, none⟩) := (H.old 8 (by kernel_rfl)).trans rfl
                have t148 : a.tmps.getD 148 undef = .int .i64 (p : Int) := H.get 13 148 (by kernel_rfl) (dep_of hd 13 (by kernel_rfl)) (fun _ h => by cases h)
                exact step7_value (i := 14) rfl (wanted_at (j := 10) (d := 145) (b := false) rfl (by kernel_rfl) t145) (run_op_index rfl t8 t148 (run_index_i64 gA p hlp W)) (calm7 (fun fs vs x y h hl => FillJ.later h hl) (by kernel_rfl) (by kernel_rfl) hj (later_refl _)) rfl
              · intro listed a W H hj hl hd
                have t145 : a.tmps.getD 145 undef = .bool false := H.get 10 145 (by kernel_rfl) (dep_of hd 10 (by kernel_rfl)) (fun _ h => by cases h)
                have t149 : a.tmps.getD 149 undef = .pointer (some ⟨gA, p, none⟩) := H.get 14 149 (by kernel_rfl) (dep_of hd 14 (by kernel_rfl)) (fun _ h => by cases h)
                exact step7_value (i := 15) rfl (wanted_at (j := 10) (d := 145) (b := false) rfl (by kernel_rfl) t145) (run_op_load rfl t149 (run_load_i64 _ _ W (HCA.out W hj.below))) (calm7 (fun fs vs x y h hl => FillJ.later h hl) (by kernel_rfl) (by kernel_rfl) hj (later_refl _)) rfl
              · intro listed a W H hj hl hd
                have t145 : a.tmps.getD 145 undef = .bool false := H.get 10 145 (by kernel_rfl) (dep_of hd 10 (by kernel_rfl)) (fun _ h => by cases h)
                have t150 : a.tmps.getD 150 undef = .int .i64 (j : Int) := H.get 15 150 (by kernel_rfl) (dep_of hd 15 (by kernel_rfl)) (fun _ h => by cases h)
                exact step7_value (i := 16) rfl (wanted_at (j := 10) (d := 145) (b := false) rfl (by kernel_rfl) t145) (run_op_bin rfl rfl t150 (bin_add _ _ _ 1 (j : Int) (1 + (j : Int)) (by first | rfl | (simp; done) | (simp; omega) | decide) (by omega) (by omega))) (calm7 (fun fs vs x y h hl => FillJ.later h hl) (by kernel_rfl) (by kernel_rfl) hj (later_refl _)) rfl
              · intro listed a W H hj hl hd
                have t145 : a.tmps.getD 145 undef = .bool false := H.get 10 145 (by kernel_rfl) (dep_of hd 10 (by kernel_rfl)) (fun _ h => by cases h)
                have t147 : a.tmps.getD 147 undef = .int .i64 (1 + (j : Int)) := H.get 12 147 (by kernel_rfl) (dep_of hd 12 (by kernel_rfl)) (fun _ h => by cases h)
                have t151 : a.tmps.getD 151 undef = .int .i64 (1 + (j : Int)) := H.get 16 151 (by kernel_rfl) (dep_of hd 16 (by kernel_rfl)) (fun _ h => by cases h)
                exact step7_value (i := 17) rfl (wanted_at (j := 10) (d := 145) (b := false) rfl (by kernel_rfl) t145) (run_op_bin rfl t147 t151 (bin_neq _ _ _ (1 + (j : Int)) (1 + (j : Int)) false (by first | rfl | (simp; done) | (simp; omega) | decide))) (calm7 (fun fs vs x y h hl => FillJ.later h hl) (by kernel_rfl) (by kernel_rfl) hj (later_refl _)) rfl
              · intro listed a W H hj hl hd
                have t138 : a.tmps.getD 138 undef = .bool true := H.get 3 138 (by kernel_rfl) (dep_of hd 3 (by kernel_rfl)) (fun _ h => by cases h)
                have t145 : a.tmps.getD 145 undef = .bool false := H.get 10 145 (by kernel_rfl) (dep_of hd 10 (by kernel_rfl)) (fun _ h => by cases h)
                have t152 : a.tmps.getD 152 undef = .bool false := H.get 17 152 (by kernel_rfl) (dep_of hd 17 (by kernel_rfl)) (fun _ h => by cases h)
                exact step7_value (i := 18) rfl (wanted_at (j := 3) (d := 138) (b := true) rfl (by kernel_rfl) t138) (run_op_pickF rfl t145 t152) (calm7 (fun fs vs x y h hl => FillJ.later h hl) (by kernel_rfl) (by kernel_rfl) hj (later_refl _)) rfl
              · intro listed a W H hj hl hd
                have t138 : a.tmps.getD 138 undef = .bool true := H.get 3 138 (by kernel_rfl) (dep_of hd 3 (by kernel_rfl)) (fun _ h => by cases h)
                have t153 : a.tmps.getD 153 undef = .bool false := H.get 18 153 (by kernel_rfl) (dep_of hd 18 (by kernel_rfl)) (fun _ h => by cases h)
                exact step7_value (i := 19) rfl (wanted_at (j := 3) (d := 138) (b := true) rfl (by kernel_rfl) t138) (run_op_move rfl t153) (calm7 (fun fs vs x y h hl => FillJ.later h hl) (by kernel_rfl) (by kernel_rfl) hj (later_refl _)) rfl
              · intro listed a W H hj hl hd
                have t154 : a.tmps.getD 154 undef = .bool false := H.get 19 154 (by kernel_rfl) (dep_of hd 19 (by kernel_rfl)) (fun _ h => by cases h)
                have t20 : a.tmps.getD 20 undef = .slice A9 128 c9 := (H.old 20 (by kernel_rfl)).trans rfl
                exact step7_value (i := 20) rfl (wanted_at (j := 19) (d := 154) (b := false) rfl (by kernel_rfl) t154) (run_op_move rfl t20) (calm7 (fun fs vs x y h hl => FillJ.later h hl) (by kernel_rfl) (by kernel_rfl) hj (later_refl _)) rfl
              · intro listed a W H hj hl hd
                have t154 : a.tmps.getD 154 undef = .bool false := H.get 19 154 (by kernel_rfl) (dep_of hd 19 (by kernel_rfl)) (fun _ h => by cases h)
                have t17 : a.tmps.getD 17 undef = .int .i64 (p : Int) := (H.old 17 (by kernel_rfl)).trans rfl
                exact step7_value (i := 21) rfl (wanted_at (j := 19) (d := 154) (b := false) rfl (by kernel_rfl) t154) (run_op_move rfl t17) (calm7 (fun fs vs x y h hl => FillJ.later h hl) (by kernel_rfl) (by kernel_rfl) hj (later_refl _)) rfl
              · intro listed a W H hj hl hd
                have t154 : a.tmps.getD 154 undef = .bool false := H.get 19 154 (by kernel_rfl) (dep_of hd 19 (by kernel_rfl)) (fun _ h => by cases h)
                have t8 : a.tmps.getD 8 undef = .pointer (some ⟨gA, 0, none⟩) := (H.old 8 (by kernel_rfl)).trans rfl
                have t156 : a.tmps.getD 156 undef = .int .i64 (p : Int) := H.get 21 156 (by kernel_rfl) (dep_of hd 21 (by kernel_rfl)) (fun _ h => by cases h)
                exact step7_value (i := 22) rfl (wanted_at (j := 19) (d := 154) (b := false) rfl (by kernel_rfl) t154) (run_op_index rfl t8 t156 (run_index_i64 gA p hlp W)) (calm7 (fun fs vs x y h hl => FillJ.later h hl) (by kernel_rfl) (by kernel_rfl) hj (later_refl _)) rfl
              · intro listed a W H hj hl hd
                have t154 : a.tmps.getD 154 undef = .bool false := H.get 19 154 (by kernel_rfl) (dep_of hd 19 (by kernel_rfl)) (fun _ h => by cases h)
                have t157 : a.tmps.getD 157 undef = .pointer (some ⟨gA, p, none⟩) := H.get 22 157 (by kernel_rfl) (dep_of hd 22 (by kernel_rfl)) (fun _ h => by cases h)
                exact step7_value (i := 23) rfl (wanted_at (j := 19) (d := 154) (b := false) rfl (by kernel_rfl) t154) (run_op_load rfl t157 (run_load_i64 _ _ W (HCA.out W hj.below))) (calm7 (fun fs vs x y h hl => FillJ.later h hl) (by kernel_rfl) (by kernel_rfl) hj (later_refl _)) rfl
              · intro listed a W H hj hl hd
                have t154 : a.tmps.getD 154 undef = .bool false := H.get 19 154 (by kernel_rfl) (dep_of hd 19 (by kernel_rfl)) (fun _ h => by cases h)
                have t158 : a.tmps.getD 158 undef = .int .i64 (j : Int) := H.get 23 158 (by kernel_rfl) (dep_of hd 23 (by kernel_rfl)) (fun _ h => by cases h)
                refine step7_call (i := 24) rfl (wanted_at (j := 19) (d := 154) (b := false) rfl (by kernel_rfl) t154) (run_op_call (vs := #[.int .i64 (j : Int), .int .i64 128]) Tryz.func24 (by kernel_rfl) (by kernel_rfl) rfl (by simp only [List.map_toArray, List.map_cons, List.map_nil]; show (#[a.tmps.getD 158 undef, .int .i64 128] : Array Value) = _; rw [t158])) ?_
                refine (fill_any (j : Int) 128 128 W rfl (by omega) (by omega) (by decide)).mono ?_
                rintro e w' ⟨Ax, nx, cx, rfl, hox, hbx⟩
                obtain rfl : 128 = nx := by rw [← hox.bytes.len, fillL_len]
                have hk9 := hj.fill (by rw [slots_len]; decide) hbx hox
                rw [← flags_put (m := 24) 0 rfl (by decide), ← slots_at (a := a) (d := 159) 0 rfl (by decide) (by rw [H.size]; exact of_decide_eq_true (by kernel_rfl))] at hk9
                exact ⟨_, rfl, hk9, trivial⟩
              · intro listed a W H hj hl hd
                have t154 : a.tmps.getD 154 undef = .bool false := H.get 19 154 (by kernel_rfl) (dep_of hd 19 (by kernel_rfl)) (fun _ h => by cases h)
                have t155 : a.tmps.getD 155 undef = .slice A9 128 c9 := H.get 20 155 (by kernel_rfl) (dep_of hd 20 (by kernel_rfl)) (fun _ h => by cases h)
                have d159 : listed.getD 24 false = true := dep_of hd 24 (by kernel_rfl)
                refine step7_call (i := 25) rfl (wanted_at (j := 19) (d := 154) (b := false) rfl (by kernel_rfl) t154) (run_op_call (vs := #[.slice A9 128 c9, a.tmps.getD 159 undef]) Tryz.func34 (by kernel_rfl) (by kernel_rfl) rfl (by simp only [List.map_toArray, List.map_cons, List.map_nil]; show (#[a.tmps.getD 155 undef, a.tmps.getD 159 undef] : Array Value) = _; rw [t155])) ?_
                have f0 : (flags [24] listed).getD 0 false = true := done_true d159
                obtain ⟨Ay, cy, ey, oy⟩ := hj.own f0
                have eya : a.tmps.getD 159 undef = .slice Ay 128 cy := ey
                rw [eya]
                refine (same_any _ _ _ _ _ _ _ _ W (by decide) (by decide) (D10.out.since hj.below).own.bytes oy.bytes).mono ?_
                rw [show sameB (fillL (j : Int) 128) (fillL (j : Int) 128) = true from decide_eq_true rfl]
                rintro e w' ⟨rfl, hbx⟩
                exact ⟨_, rfl, (calm7 (fun fs vs x y h hl => FillJ.later h hl) (by kernel_rfl) (by kernel_rfl) hj hbx), rfl⟩
              · intro listed a W H hj hl hd
                have t154 : a.tmps.getD 154 undef = .bool false := H.get 19 154 (by kernel_rfl) (dep_of hd 19 (by kernel_rfl)) (fun _ h => by cases h)
                have t160 : a.tmps.getD 160 undef = .bool true := H.get 25 160 (by kernel_rfl) (dep_of hd 25 (by kernel_rfl)) (fun _ h => by cases h)
                exact step7_value (i := 26) rfl (wanted_at (j := 19) (d := 154) (b := false) rfl (by kernel_rfl) t154) (run_op_not rfl t160) (calm7 (fun fs vs x y h hl => FillJ.later h hl) (by kernel_rfl) (by kernel_rfl) hj (later_refl _)) rfl
              · intro listed a W H hj hl hd
                have t138 : a.tmps.getD 138 undef = .bool true := H.get 3 138 (by kernel_rfl) (dep_of hd 3 (by kernel_rfl)) (fun _ h => by cases h)
                have t154 : a.tmps.getD 154 undef = .bool false := H.get 19 154 (by kernel_rfl) (dep_of hd 19 (by kernel_rfl)) (fun _ h => by cases h)
                have t161 : a.tmps.getD 161 undef = .bool false := H.get 26 161 (by kernel_rfl) (dep_of hd 26 (by kernel_rfl)) (fun _ h => by cases h)
                exact step7_value (i := 27) rfl (wanted_at (j := 3) (d := 138) (b := true) rfl (by kernel_rfl) t138) (run_op_pickF rfl t154 t161) (calm7 (fun fs vs x y h hl => FillJ.later h hl) (by kernel_rfl) (by kernel_rfl) hj (later_refl _)) rfl
              · intro listed a W H hj hl hd
                have t138 : a.tmps.getD 138 undef = .bool true := H.get 3 138 (by kernel_rfl) (dep_of hd 3 (by kernel_rfl)) (fun _ h => by cases h)
                have t162 : a.tmps.getD 162 undef = .bool false := H.get 27 162 (by kernel_rfl) (dep_of hd 27 (by kernel_rfl)) (fun _ h => by cases h)
                exact step7_value (i := 28) rfl rfl (run_op_pick rfl t138 t162) (calm7 (fun fs vs x y h hl => FillJ.later h hl) (by kernel_rfl) (by kernel_rfl) hj (later_refl _)) rfl
            · intro a WC hdef hsz hw hall hact
              obtain ⟨u, hu⟩ : ∃ u : Nat → Value, ∀ k, a.tmps.getD k undef = u k := ⟨_, fun _ => rfl⟩
              have h163 : u 163 = .bool false := by rw [← hu]; exact hall 28 _ rfl
              simp only [hu] at hact
              have hact' : a = ([135, 136, 137, 138, 139, 140, 141, 142, 143, 144, 145, 146, 147, 148, 149, 150, 151, 152, 153, 154, 155, 156, 157, 158, 159, 160, 161, 162, 163] : List Nat).foldl (fun b k => b.put (some k) (u k)) _ := hact
              simp only [List.foldl] at hact'
              simp only [Act.put, List.setIfInBounds_toArray, List.set_cons_succ, List.set_cons_zero] at hact'
              have HAC := Lib.hid hact'
              have HX := Lib.hid hw
              clear hact hact' hall hdef hsz hw
              rw [h163] at HAC
              rw [HAC.out]
              have hbl : Below W10.heap.size W10 WC := HX.out.below
              have HR9 : Hid (∃ fp s, QlR w WC gt gc gA gB i (p + 1) ta tb fp s) := ⟨_, s5, C10.out.since hbl, HG2.out, HOP5.out, HMI5.out, RA10.out.since hbl, RB10.out.since hbl, below_chain S10.out hbl⟩
              clear hbl HX HAC hu S10 C10 RA10 RB10 H10 D10
              go_wp2_with fail
              go_roundw
              case rel => exact ⟨p + 1, by go_num, by omega, HR9⟩
              case measure => simp [intOf]; omega
        · obtain rfl : p = 64 := by omega
          obtain ⟨fp2, s2, Q⟩ := HQ.out
          obtain ⟨fc2, hc2, _⟩ := Q.st.chip
          have CM := Lib.hid (misuse_any hc2)
          rw [Q.mis] at CM
          have S3 := Lib.hid Q.b
          clear Q hc2 HQ
          go_wp2_with fail
          refine CM.out.mono ?_
          rintro e W4 ⟨rfl, hb4⟩
          have S4 := Lib.hid (below_chain S3.out hb4.out)
          clear hb4 S3 CM
          go_wp2_with fail
          refine (sawake_any W4 (HT.out.since S4.out) (HW.out.since S4.out)).mono ?_
          rintro e W5 ⟨rfl, hb5⟩
          have S5 := Lib.hid (below_chain S4.out hb5.out)
          clear hb5 S4
          go_wp2_with fail
          go_ret
          exact ⟨rfl, S5.out⟩
end Go.Proofs.YthgkdnegnecnjaaGreatDoor
