/- StoreSealed: true, whatever its arguments are. Conditions: the slice's cells; what the listed variables hold. -/
import Derived.Test.YthgkdnegnecnjaaGreatDoorSealM
import Derived.Test.YthgkdnegnecnjaaGreatDoorNandNo
import Derived.Test.YthgkdnegnecnjaaGreatDoorSstoree
import Derived.Test.YthgkdnegnecnjaaGreatDoorSstore
import Derived.Test.YthgkdnegnecnjaaGreatDoorSbase
import Derived.Test.YthgkdnegnecnjaaGreatDoorSyard
set_option linter.unusedVariables false
set_option linter.unusedSimpArgs false
set_option maxRecDepth 20000
namespace Go.Proofs.YthgkdnegnecnjaaGreatDoor
open Go.RowKit

structure SlR (w W : World) (g gc i : Nat) (xs : List Int) (fp : Nat → Prop) (s : SS) : Prop where
  st : StoreAt W w.heap.size fp g gc s
  se : SE s xs i
  ops : s.c.ops ≤ 128 + 2 * i
  b : Below w.heap.size w W
structure SmR (w W : World) (g gc : Nat) (fp : Nat → Prop) (s : SS) (A : Option Addr) (n c : Nat) : Prop where
  st : StoreAt W w.heap.size fp g gc s
  row : intK.Row W w.heap.size A n c (listY s.y 3)
  b : Below w.heap.size w W
theorem SmR.since {w W W' : World} {g gc : Nat} {fp : Nat → Prop} {s : SS} {A : Option Addr} {n c : Nat} (h : SmR w W g gc fp s A n c) (hb : Below W.heap.size W W') : SmR w W' g gc fp s A n c := ⟨h.st.since hb, Kind.Row.since h.row hb, below_chain h.b hb⟩
theorem mayNew_marks {xs : List Int} (h : ∀ j, j < xs.length → 0 ≤ xs.getD j 0 ∧ xs.getD j 0 < 16) : Chip.mayNew 16 4 128 xs [] = true := by
  have h1 : Chip.mayNew 16 4 128 ([] : List Int) [] = true := by kernel_rfl
  unfold Chip.mayNew at h1 ⊢
  rw [Bool.and_eq_true] at h1 ⊢
  refine ⟨h1.1, List.all_eq_true.2 fun m hm => ?_⟩
  obtain ⟨j, hj, rfl⟩ := List.mem_iff_getElem.1 hm
  have := h j hj
  rw [List.getD_eq_getElem?_getD, List.getElem?_eq_getElem hj] at this
  exact decide_eq_true this
theorem seal_at {s : SS} {j : Nat} (h : j < (sealN s).length) : (listY s.y 3).getD j 0 = (((sealN s).getD j 0 : Nat) : Int) := by
  rw [seal_is, List.getD_eq_getElem?_getD, List.getElem?_map, List.getD_eq_getElem?_getD, List.getElem?_eq_getElem h]; rfl
theorem seal_lt {s : SS} {i j : Nat} (h : j < (sealN s).length) (hi : i < j) : (sealN s).getD i 0 < (sealN s).getD j 0 := by
  have h2 : i < (sealN s).length := by omega
  rw [List.getD_eq_getElem?_getD, List.getElem?_eq_getElem h2, List.getD_eq_getElem?_getD, List.getElem?_eq_getElem h]
  exact List.pairwise_iff_getElem.1 (sealN_up (s := s)) i j h2 h hi
theorem seal_mem {s : SS} {j : Nat} (h : j < (sealN s).length) : (sealN s).getD j 0 ∈ sealN s := by
  rw [List.getD_eq_getElem?_getD, List.getElem?_eq_getElem h]; exact List.getElem_mem h
/-- How many pages the first of them hold. -/
def allN (s : SS) (j : Nat) : Nat := (((sealN s).take j).map fun (k : Nat) => (blockS s (k : Int)).length).sum
theorem allN_next {s : SS} {j : Nat} (h : j < (sealN s).length) : allN s (j + 1) = allN s j + (blockS s (((sealN s).getD j 0 : Nat) : Int)).length := by
  unfold allN
  rw [List.take_add_one, List.getElem?_eq_getElem h, List.map_append, List.sum_append, List.getD_eq_getElem?_getD, List.getElem?_eq_getElem h]
  simp
theorem run_load_i64s (p : Addr) (z : Int) (w : World) (hc : w.cell? p = some (.int .i64 z)) : (Instr.loadAt 3 (.pointer (some p))).run Tryz.prog w = .ok (.int .i64 z) w := by go_simp
set_option maxHeartbeats 32000000 in
theorem sealed_law (A : Option Addr) (n c : Nat) (xs : List Int) (x1 x2 : Int) (w : World) (hn : n ≤ 9223372036854775807) (hA : intK.Lie w w.heap.size A n xs) (hT : Tabs w) (hW : Wid w) : Calls Tryz.prog 10 #[.slice A n c, .int .i64 x1, .int .i64 x2] w (SaysB w true) := by
  have HT := Lib.hid hT
  have HW := Lib.hid hW
  have HA := Lib.hid hA
  have HXL := Lib.hid hA.len
  have SX : Hid (Below w.heap.size w w) := Below.refl _ _
  clear hT hW hA
  by_cases hn3 : 3 < n
  · have hn9 : (3 : Int) < (n : Int) := by omega
    go_enter Tryz.func10, Tryz.ntmps10
    go_wp2_with fail
    refine (sawake_any _ HT.out HW.out).mono ?_
    rintro e W5 ⟨rfl, hb5⟩
    go_wp2_with fail
    go_ret
    exact ⟨rfl, hb5.out⟩
  have hn9 : ¬ (3 : Int) < (n : Int) := by omega
  have hn39 : (n : Int) ≤ 3 := by omega
  have n0 : (0 : Int) ≤ (n : Int) := by omega
  by_cases hbad : ∃ j, j < n ∧ ¬ (0 ≤ xs.getD j 0 ∧ xs.getD j 0 < ((16 : Nat) : Int))
  · have HBAD := Lib.hid hbad
    clear hbad
    go_enter Tryz.func10, Tryz.ntmps10
    go_wp2_with fail
    refine (geo16_any w).mono ?_
    rintro e W0 ⟨rfl, hb0⟩
    have S0 := Lib.hid hb0.out
    clear hb0
    go_wp2_with fail
    refine (new_no 16 4 128 A n c xs none 0 0 [] W0 (by kernel_rfl) HBAD.out (HA.out.since S0.out) Kind.Lie.none_ (by omega) (by decide)).mono ?_
    rintro e W1 ⟨rfl, hb1⟩
    have S1 := Lib.hid (below_chain S0.out hb1)
    clear hb1 S0
    go_wp2_with fail
    refine (sawake_any _ (HT.out.since S1.out) (HW.out.since S1.out)).mono ?_
    rintro e W5 ⟨rfl, hb5⟩
    have S5 := Lib.hid (below_chain S1.out hb5.out)
    go_wp2_with fail
    go_ret
    exact ⟨rfl, S5.out⟩
  have hall : ∀ j, j < xs.length → 0 ≤ xs.getD j 0 ∧ xs.getD j 0 < 16 := fun j hj => by
    by_cases e : 0 ≤ xs.getD j 0 ∧ xs.getD j 0 < 16
    · exact e
    · exact absurd ⟨j, by rw [← HXL.out]; exact hj, e⟩ hbad
  have hmay := mayNew_marks hall
  have HMN := Lib.hid hmay
  obtain ⟨s0, q1, q2, q3, q4⟩ := start_se hmay
  have HNEW := Lib.hid q1
  have HSE := Lib.hid q2
  have HOS := Lib.hid q4
  have HXN : Hid (xs.length ≤ 3) := by show _ ≤ _; rw [HXL.out]; omega
  have hb0 := lowM_bd x1 49 (by omega)
  obtain ⟨m, HM⟩ : ∃ m : Nat, Hid (lowM x1 49 = (m : Int)) := ⟨(lowM x1 49).toNat, by show _ = _; omega⟩
  rw [HM.out] at hb0
  have hm : m ≤ 48 := by omega
  have hm9 : (m : Int) ≤ 48 := by omega
  obtain ⟨c0, HC0⟩ : ∃ c0, Hid (Chip.fresh 16 4 128 xs [] = c0) := ⟨_, rfl⟩
  have HMAY : Hid (mayG (geoOf c0) = true) := by show _ = _; rw [← HC0.out]; exact (show mayG (geoOf (Chip.fresh 16 4 128 [] [])) = true by kernel_rfl)
  have HON : Hid (c0.on = true) := by show _ = _; rw [← HC0.out]; rfl
  have HOP0 : Hid (c0.ops = 0) := by show _ = _; rw [← HC0.out]; rfl
  rw [HC0.out] at HNEW
  clear hbad hall hmay q1 q2 q3 q4 hb0 SX
  go_enter Tryz.func10, Tryz.ntmps10
  go_wp2_with fail
  refine (geo16_any w).mono ?_
  rintro e W0 ⟨rfl, hb0⟩
  have S0 := Lib.hid hb0.out
  clear hb0
  go_wp2_with fail
  refine (new_yes 16 4 128 A n c xs none 0 0 [] W0 HMN.out (HA.out.since S0.out) Kind.Lie.none_ (by omega) (by decide)).mono ?_
  rintro e W1 ⟨gc, fc, rfl, hc1, hb1⟩
  rw [HC0.out] at hc1
  have S1 := Lib.hid (below_chain S0.out hb1)
  have C1 := Lib.hid (hc1.elder S0.out.size)
  clear hc1 hb1 S0 HC0
  go_wp2_with fail
  refine (snew_any HMAY.out HON.out HT.out HW.out S1.out (Nat.le_refl _) (by rw [HOP0.out]; decide) C1.out).mono ?_
  rw [HNEW.out]
  rintro e W2 hn2
  obtain ⟨g, fp, rfl, hg2, hs2, hm2⟩ : ∃ g fp, e = .returned (.tuple #[.pointer (some ⟨g, 0, none⟩), .nilIface]) ∧ W1.heap.size ≤ g ∧ StoreAt W2 w.heap.size fp g gc s0 ∧ Moves W1 fc W2 fp := by
    rcases hn2 with h | h
    · exact h.2
    · exact absurd rfl h.1
  have S2 := Lib.hid (hm2.below S1.out C1.out.ge S1.out.size)
  have HR0 : Hid (∃ fp s, SlR w W2 g gc 0 xs fp s) := ⟨fp, s0, hs2, HSE.out, HOS.out, S2.out⟩
  clear hn2 hg2 hs2 hm2 S1 C1 HNEW HMAY HON HOP0 S2 HSE HOS
  go_wp2_with fail
  go_loopw [10] (fun t10 wr => ∃ (i : Nat), t10 = .int .i64 (i : Int) ∧ i ≤ m ∧ Hid (∃ fp s, SlR w wr g gc i xs fp s)) (fun t10 _ => m - (intOf t10).toNat)
  case atStart => exact ⟨0, rfl, Nat.zero_le _, HR0⟩
  case round =>
    obtain ⟨i, rfl, hi, HR⟩ := hrel
    have i0 : (0 : Int) ≤ (i : Int) := by omega
    have CLOW := Lib.hid (low_any x1 49 (by omega) (by omega) wr)
    rw [HM.out] at CLOW
    by_cases hlt : i < m
    · have i1 : (i : Int) < (m : Int) := by omega
      obtain ⟨fp2, s2, Q⟩ := HR.out
      have C3 := Lib.hid Q.st
      have S3 := Lib.hid Q.b
      have HOPS := Lib.hid Q.ops
      have HSW := Lib.hid Q.se.si.sw
      obtain ⟨s3, k, q, p1, hk, hq, pm, p2, p3, pn, hse⟩ := Q.se.put HXN.out (by omega)
      have HP1 := Lib.hid p1
      have HSE := Lib.hid hse
      have HPN2 := Lib.hid pn
      have HPM := Lib.hid pm
      have HCO : Hid (s3.c.ops ≤ 128 + 2 * (i + 1)) := by show _ ≤ _; have := HOPS.out; omega
      obtain ⟨pN, HPN⟩ : ∃ pN, Hid (k * 4 + q = pN) := ⟨_, rfl⟩
      have hpN : pN < 64 := by rw [← HPN.out]; omega
      have hquo : (pN : Int) / 4 = (k : Int) := by have := HPN.out; omega
      have hquo2 : Int.tdiv (pN : Int) 4 = (k : Int) := by rw [Int.tdiv_eq_ediv_of_nonneg (by omega)]; exact hquo
      have HKQ : Hid (k < 16 ∧ q < 4) := ⟨hk, hq⟩
      rw [show pno 4 k q = (pN : Int) from by unfold pno; rw [HPN.out]] at HP1
      have p0 : (0 : Int) ≤ (pN : Int) := by omega
      have p64 : (pN : Int) < 64 := by omega
      have b6 : ¬ (pN : Int) < 0 := by omega
      have b7 : ¬ (63 : Int) < (pN : Int) := by omega
      have k0 : (0 : Int) ≤ (k : Int) := by omega
      clear Q HR p1 p2 p3 pn pm hse hk hq
      go_wp2_with fail
      refine CLOW.out.mono ?_
      rintro e w' ⟨rfl, rfl⟩
      clear CLOW
      go_wp2_with fail
      refine (fill_any (i : Int) 128 128 _ rfl (by omega) (by omega) (by decide)).mono ?_
      rintro e W4 ⟨A4, n4, c4, rfl, ho4, hb4⟩
      obtain rfl : 128 = n4 := by rw [← ho4.bytes.len, fillL_len]
      have S4 := Lib.hid (below_chain S3.out hb4)
      have C4 := Lib.hid (C3.out.since hb4)
      have O4 := Lib.hid ho4
      clear hb4 ho4 S3 C3
      go_wp2_with fail
      refine (put_any 1 (i : Int) (1 + (i : Int)) 0 A4 128 c4 (fillL (i : Int) 128) (HT.out.since S4.out) (HW.out.since S4.out) O4.out.bytes (by decide) (by omega) (by omega) HSW.out (by have := HOPS.out; omega) C4.out).mono ?_
      rw [HP1.out]
      rintro e W5 ⟨v5, fp5, rfl, he5, hs5, hm5⟩
      obtain rfl := he5.nil
      have S5 := Lib.hid (hm5.below S4.out C4.out.ge S4.out.size)
      have C5 := Lib.hid hs5
      clear he5 hs5 hm5 S4 C4 O4 HP1 HSW
      obtain ⟨fc5, hc5, _⟩ := C5.out.chip
      have CM := Lib.hid (marked_any (k : Int) hc5)
      rw [HPM.out] at CM
      clear hc5
      go_wp2_with (simp only [hquo2])
      refine CM.out.mono ?_
      rintro e W6 ⟨rfl, hb6⟩
      have S6 := Lib.hid (below_chain S5.out hb6.out)
      have C6 := Lib.hid (C5.out.since hb6.out)
      clear hb6 S5 C5 CM
      obtain ⟨β, HBT⟩ : ∃ β : Int, Hid (bits .and .i64 (x2 / 2 ^ (i % 60)) 1 = β) := ⟨_, rfl⟩
      have hβ : β = 0 ∨ β = 1 := by
        rw [← HBT.out, i64_and1]
        omega
      rcases hβ with rfl | rfl
      · have HR9 : Hid (∃ fp s, SlR w W6 g gc (i + 1) xs fp s) := ⟨_, s3, C6.out, HSE.out, HCO.out, S6.out⟩
        clear S6 C6
        go_wp2_with (simp only [HBT.out])
        go_roundw
        case rel => exact ⟨i + 1, by go_num, by omega, HR9⟩
        case measure => simp [intOf]; omega
      · obtain ⟨s4, q1, q2, q4⟩ := HSE.out.drop HKQ.out.1 HPN2.out
        rw [show pno 4 k q = (pN : Int) from by unfold pno; rw [HPN.out]] at q1
        have CD := Lib.hid (sdrop_any (pN : Int) C6.out)
        rw [q1] at CD
        have HQ2 := Lib.hid q2
        have HQ4 := Lib.hid q4
        clear q1 q2 q4
        go_wp2_with (simp only [HBT.out])
        refine CD.out.mono ?_
        rintro e W8 ⟨v8, fp8, rfl, he8, hs8, hm8⟩
        obtain rfl := he8.nil
        have HR9 : Hid (∃ fp s, SlR w W8 g gc (i + 1) xs fp s) := ⟨_, s4, hs8, HQ4.out, by rw [HQ2.out]; exact HCO.out, hm8.below S6.out C6.out.ge S6.out.size⟩
        clear he8 hs8 hm8 S6 C6 CD
        go_wp2_with fail
        go_roundw
        case rel => exact ⟨i + 1, by go_num, by omega, HR9⟩
        case measure => simp [intOf]; omega
    · have i1 : ¬ (i : Int) < (m : Int) := by omega
      obtain ⟨fp2, s2, Q⟩ := HR.out
      have C3 := Lib.hid Q.st
      have S3 := Lib.hid Q.b
      obtain ⟨nn, _, hsn⟩ := Q.st
      have CS := Lib.hid (sealed_any hsn)
      have HSE := Lib.hid Q.se
      clear Q HR hsn
      go_wp2_with fail
      refine CLOW.out.mono ?_
      rintro e w' ⟨rfl, rfl⟩
      clear CLOW
      go_wp2_with fail
      refine CS.out.mono ?_
      rintro e W4 ⟨A4, n4, c4, rfl, hr4, hb4⟩
      have hl4 : (sealN s2).length = n4 := by have := Kind.Row.len hr4.out; rwa [seal_is, List.length_map] at this
      have HL4 := Lib.hid hl4
      have hn4 : n4 ≤ 16 := by
        rw [← hl4]
        unfold sealN
        have := List.length_filter_le (fun k => s2.y.S.getD k 0 == 3) (List.range s2.y.S.length)
        rw [List.length_range, HSE.out.si.sw.nb, HSE.out.nb] at this
        rw [HSE.out.si.sw.nb, HSE.out.nb]
        exact this
      have SM0 : Hid (SmR w W4 g gc fp2 s2 A4 n4 c4) := ⟨C3.out.since hb4.out, Kind.Row.elder hr4.out S3.out.size, below_chain S3.out hb4.out⟩
      clear hr4 hb4 hl4 C3 S3 CS
      go_wp2_with fail
      go_loopw [14, 15] (fun t14 t15 wq => ∃ (j tt : Nat), t14 = .int .i64 (tt : Int) ∧ t15 = .int .i64 (j : Int) ∧ j ≤ n4 ∧ tt ≤ 4 * j ∧ Hid (allN s2 j = tt) ∧ Hid (SmR w wq g gc fp2 s2 A4 n4 c4)) (fun _ t15 _ => n4 - (intOf t15).toNat)
      case atStart => exact ⟨0, 0, rfl, rfl, Nat.zero_le _, Nat.zero_le _, rfl, SM0⟩
      case round =>
        obtain ⟨WD, rfl⟩ : ∃ WD, WD = wr := ⟨_, rfl⟩
        obtain ⟨j, tt, rfl, rfl, hjn, ha, HAL, SM⟩ := hrel
        have j0 : (0 : Int) ≤ (j : Int) := by omega
        have a0 : (0 : Int) ≤ (tt : Int) := by omega
        have n40 : (0 : Int) ≤ (n4 : Int) := by omega
        by_cases hlj : j < n4
        · have j1 : (j : Int) < (n4 : Int) := by omega
          have hls : j < (sealN s2).length := by rw [HL4.out]; exact hlj
          obtain ⟨ad, had, hblk, c0⟩ := int_at (Kind.Row.lie SM.out.row) hlj
          have hprev : 0 < j → WD.cell? (ad.add (j - 1)) = some (.int .i64 (((sealN s2).getD (j - 1) 0 : Nat) : Int)) := fun hp => by
            obtain ⟨ad', had', hblk', c0'⟩ := int_at (Kind.Row.lie SM.out.row) (k := j - 1) (by omega)
            rw [had] at had'
            obtain rfl := Option.some.inj had'
            rw [c0', seal_at (by omega)]
          subst had
          rw [seal_at hls] at c0
          obtain ⟨hb16, hmk, hL0, hL4⟩ := HSE.out.sealed (seal_mem hls)
          have hnx := allN_next hls
          have hpl : ∀ hp : 0 < j, (sealN s2).getD (j - 1) 0 < (sealN s2).getD j 0 := fun hp => seal_lt hls (by omega)
          obtain ⟨b, HB⟩ : ∃ b, Hid ((sealN s2).getD j 0 = b) := ⟨_, rfl⟩
          obtain ⟨b1, HB1⟩ : ∃ b1, Hid ((sealN s2).getD (j - 1) 0 = b1) := ⟨_, rfl⟩
          rw [HB.out] at c0 hb16 hmk hL0 hL4 hnx hpl
          rw [HB1.out] at hprev hpl
          obtain ⟨L, HLL⟩ : ∃ L, Hid ((blockS s2 (b : Int)).length = L) := ⟨_, rfl⟩
          rw [HLL.out] at hL0 hL4 hnx
          have HNX := Lib.hid hnx
          have HC0 : Hid (∀ W, Below WD.heap.size WD W → W.cell? (ad.add j) = some (.int .i64 (b : Int))) := fun W hb => (hb.cell (by rw [addr_block]; exact hblk)).trans c0
          have HPV : Hid (0 < j → ∀ W, Below WD.heap.size WD W → W.cell? (ad.add (j - 1)) = some (.int .i64 (b1 : Int))) := fun hp W hb => (hb.cell (by rw [addr_block]; exact hblk)).trans (hprev hp)
          have HPL := Lib.hid hpl
          have HCM : Hid (∀ W, Below WD.heap.size WD W → Calls Tryz.prog 19 #[.pointer (some ⟨gc, 0, none⟩), .int .i64 (b : Int)] W (SaysB W false)) := fun W hb => by
            obtain ⟨fc, hc, _⟩ := (SM.out.st.since hb).chip
            have := marked_any (b : Int) hc
            rwa [hmk] at this
          have HCB : Hid (∀ W, Below WD.heap.size WD W → Calls Tryz.prog 20 #[.pointer (some ⟨g, 0, none⟩), .int .i64 (b : Int)] W (GivesI W (blockS s2 (b : Int)))) := fun W hb => by
            obtain ⟨nn, _, hsn⟩ := SM.out.st.since hb
            exact block_any _ hsn
          clear c0 hprev hpl hmk hnx hblk hls
          go_wp2_with fail
          rcases Nat.eq_zero_or_pos j with hj0 | hj0
          · skip
            refine region_of_steps7 (by kernel_rfl) [some (.slice (some ad) n4 c4), some (.int .i64 (j : Int)), some (.pointer (some (ad.add j))), some (.int .i64 (b : Int)), some (.bool false), some (.bool false), some (.slice (some ad) n4 c4), some (.int .i64 (j : Int)), some (.pointer (some (ad.add j))), some (.int .i64 (b : Int)), some (.bool false), some (.bool false), some (.bool false), some (.pointer (some ⟨gc, 0, none⟩)), some (.slice (some ad) n4 c4), some (.int .i64 (j : Int)), some (.pointer (some (ad.add j))), some (.int .i64 (b : Int)), some (.bool false), some (.bool false), some (.bool false), some (.pointer (some ⟨g, 0, none⟩)), some (.slice (some ad) n4 c4), some (.int .i64 (j : Int)), some (.pointer (some (ad.add j))), some (.int .i64 (b : Int)), none, some (.int .i64 (L : Int)), some (.bool false), some (.bool false), some (.bool false), some (.int .i64 (j : Int)), some (.bool false), some (.bool false), some undef, some undef, some undef, some undef, some undef, some undef, some undef, some undef, some undef, some undef, some (.bool false), some (.bool false)] [26] [120] (LenJ WD L) (by kernel_rfl) (by kernel_rfl) ⟨(Below.refl _ _).drew, fun e => by cases e⟩ ?_ ?_
            · refine Steps7.cons ?_ (Steps7.cons ?_ (Steps7.cons ?_ (Steps7.cons ?_ (Steps7.cons ?_ (Steps7.cons ?_ (Steps7.cons ?_ (Steps7.cons ?_ (Steps7.cons ?_ (Steps7.cons ?_ (Steps7.cons ?_ (Steps7.cons ?_ (Steps7.cons ?_ (Steps7.cons ?_ (Steps7.cons ?_ (Steps7.cons ?_ (Steps7.cons ?_ (Steps7.cons ?_ (Steps7.cons ?_ (Steps7.cons ?_ (Steps7.cons ?_ (Steps7.cons ?_ (Steps7.cons ?_ (Steps7.cons ?_ (Steps7.cons ?_ (Steps7.cons ?_ (Steps7.cons ?_ (Steps7.cons ?_ (Steps7.cons ?_ (Steps7.cons ?_ (Steps7.cons ?_ (Steps7.cons ?_ (Steps7.cons ?_ (Steps7.cons ?_ (Steps7.cons ?_ (Steps7.cons ?_ (Steps7.cons ?_ (Steps7.cons ?_ (Steps7.cons ?_ (Steps7.cons ?_ (Steps7.cons ?_ (Steps7.cons ?_ (Steps7.cons ?_ (Steps7.cons ?_ (Steps7.cons ?_ (Steps7.cons ?_ (Steps7.nil))))))))))))))))))))))))))))))))))))))))))))))
              · intro listed a W H hj hl hd
                have t13 : a.tmps.getD 13 undef = .slice (some ad) n4 c4 := (H.old 13 (by kernel_rfl)).trans rfl
                exact step7_value (i := 0) rfl rfl (run_op_move rfl t13) (calm7 (fun fs vs x y h hl => LenJ.later h hl) (by kernel_rfl) (by kernel_rfl) hj (later_refl _)) rfl
              · intro listed a W H hj hl hd
                have t15 : a.tmps.getD 15 undef = .int .i64 (j : Int) := (H.old 15 (by kernel_rfl)).trans rfl
                exact step7_value (i := 1) rfl rfl (run_op_move rfl t15) (calm7 (fun fs vs x y h hl => LenJ.later h hl) (by kernel_rfl) (by kernel_rfl) hj (later_refl _)) rfl
              · intro listed a W H hj hl hd
                have t94 : a.tmps.getD 94 undef = .slice (some ad) n4 c4 := H.get 0 94 (by kernel_rfl) (dep_of hd 0 (by kernel_rfl)) (fun _ h => by cases h)
                have t95 : a.tmps.getD 95 undef = .int .i64 (j : Int) := H.get 1 95 (by kernel_rfl) (dep_of hd 1 (by kernel_rfl)) (fun _ h => by cases h)
                exact step7_value (i := 2) rfl rfl (run_op_index rfl t94 t95 (run_index_i ad n4 c4 j hlj W)) (calm7 (fun fs vs x y h hl => LenJ.later h hl) (by kernel_rfl) (by kernel_rfl) hj (later_refl _)) rfl
              · intro listed a W H hj hl hd
                have t96 : a.tmps.getD 96 undef = .pointer (some (ad.add j)) := H.get 2 96 (by kernel_rfl) (dep_of hd 2 (by kernel_rfl)) (fun _ h => by cases h)
                exact step7_value (i := 3) rfl rfl (run_op_load rfl t96 (run_load_i64s _ _ W (HC0.out W hj.below))) (calm7 (fun fs vs x y h hl => LenJ.later h hl) (by kernel_rfl) (by kernel_rfl) hj (later_refl _)) rfl
              · intro listed a W H hj hl hd
                have t97 : a.tmps.getD 97 undef = .int .i64 (b : Int) := H.get 3 97 (by kernel_rfl) (dep_of hd 3 (by kernel_rfl)) (fun _ h => by cases h)
                exact step7_value (i := 4) rfl rfl (run_op_bin rfl t97 rfl (bin_lss _ _ _ (b : Int) 0 false (by first | rfl | (simp; done) | (simp; omega) | decide))) (calm7 (fun fs vs x y h hl => LenJ.later h hl) (by kernel_rfl) (by kernel_rfl) hj (later_refl _)) rfl
              · intro listed a W H hj hl hd
                have t98 : a.tmps.getD 98 undef = .bool false := H.get 4 98 (by kernel_rfl) (dep_of hd 4 (by kernel_rfl)) (fun _ h => by cases h)
                exact step7_value (i := 5) rfl rfl (run_op_move rfl t98) (calm7 (fun fs vs x y h hl => LenJ.later h hl) (by kernel_rfl) (by kernel_rfl) hj (later_refl _)) rfl
              · intro listed a W H hj hl hd
                have t99 : a.tmps.getD 99 undef = .bool false := H.get 5 99 (by kernel_rfl) (dep_of hd 5 (by kernel_rfl)) (fun _ h => by cases h)
                have t13 : a.tmps.getD 13 undef = .slice (some ad) n4 c4 := (H.old 13 (by kernel_rfl)).trans rfl
                exact step7_value (i := 6) rfl (wanted_at (j := 5) (d := 99) (b := false) rfl (by kernel_rfl) t99) (run_op_move rfl t13) (calm7 (fun fs vs x y h hl => LenJ.later h hl) (by kernel_rfl) (by kernel_rfl) hj (later_refl _)) rfl
              · intro listed a W H hj hl hd
                have t99 : a.tmps.getD 99 undef = .bool false := H.get 5 99 (by kernel_rfl) (dep_of hd 5 (by kernel_rfl)) (fun _ h => by cases h)
                have t15 : a.tmps.getD 15 undef = .int .i64 (j : Int) := (H.old 15 (by kernel_rfl)).trans rfl
                exact step7_value (i := 7) rfl (wanted_at (j := 5) (d := 99) (b := false) rfl (by kernel_rfl) t99) (run_op_move rfl t15) (calm7 (fun fs vs x y h hl => LenJ.later h hl) (by kernel_rfl) (by kernel_rfl) hj (later_refl _)) rfl
              · intro listed a W H hj hl hd
                have t99 : a.tmps.getD 99 undef = .bool false := H.get 5 99 (by kernel_rfl) (dep_of hd 5 (by kernel_rfl)) (fun _ h => by cases h)
                have t100 : a.tmps.getD 100 undef = .slice (some ad) n4 c4 := H.get 6 100 (by kernel_rfl) (dep_of hd 6 (by kernel_rfl)) (fun _ h => by cases h)
                have t101 : a.tmps.getD 101 undef = .int .i64 (j : Int) := H.get 7 101 (by kernel_rfl) (dep_of hd 7 (by kernel_rfl)) (fun _ h => by cases h)
                exact step7_value (i := 8) rfl (wanted_at (j := 5) (d := 99) (b := false) rfl (by kernel_rfl) t99) (run_op_index rfl t100 t101 (run_index_i ad n4 c4 j hlj W)) (calm7 (fun fs vs x y h hl => LenJ.later h hl) (by kernel_rfl) (by kernel_rfl) hj (later_refl _)) rfl
              · intro listed a W H hj hl hd
                have t99 : a.tmps.getD 99 undef = .bool false := H.get 5 99 (by kernel_rfl) (dep_of hd 5 (by kernel_rfl)) (fun _ h => by cases h)
                have t102 : a.tmps.getD 102 undef = .pointer (some (ad.add j)) := H.get 8 102 (by kernel_rfl) (dep_of hd 8 (by kernel_rfl)) (fun _ h => by cases h)
                exact step7_value (i := 9) rfl (wanted_at (j := 5) (d := 99) (b := false) rfl (by kernel_rfl) t99) (run_op_load rfl t102 (run_load_i64s _ _ W (HC0.out W hj.below))) (calm7 (fun fs vs x y h hl => LenJ.later h hl) (by kernel_rfl) (by kernel_rfl) hj (later_refl _)) rfl
              · intro listed a W H hj hl hd
                have t99 : a.tmps.getD 99 undef = .bool false := H.get 5 99 (by kernel_rfl) (dep_of hd 5 (by kernel_rfl)) (fun _ h => by cases h)
                have t103 : a.tmps.getD 103 undef = .int .i64 (b : Int) := H.get 9 103 (by kernel_rfl) (dep_of hd 9 (by kernel_rfl)) (fun _ h => by cases h)
                exact step7_value (i := 10) rfl (wanted_at (j := 5) (d := 99) (b := false) rfl (by kernel_rfl) t99) (run_op_bin rfl t103 rfl (bin_gtr _ _ _ (b : Int) 15 false (by first | rfl | (simp; done) | (simp; omega) | decide))) (calm7 (fun fs vs x y h hl => LenJ.later h hl) (by kernel_rfl) (by kernel_rfl) hj (later_refl _)) rfl
              · intro listed a W H hj hl hd
                have t99 : a.tmps.getD 99 undef = .bool false := H.get 5 99 (by kernel_rfl) (dep_of hd 5 (by kernel_rfl)) (fun _ h => by cases h)
                have t104 : a.tmps.getD 104 undef = .bool false := H.get 10 104 (by kernel_rfl) (dep_of hd 10 (by kernel_rfl)) (fun _ h => by cases h)
                exact step7_value (i := 11) rfl rfl (run_op_pickF rfl t99 t104) (calm7 (fun fs vs x y h hl => LenJ.later h hl) (by kernel_rfl) (by kernel_rfl) hj (later_refl _)) rfl
              · intro listed a W H hj hl hd
                have t105 : a.tmps.getD 105 undef = .bool false := H.get 11 105 (by kernel_rfl) (dep_of hd 11 (by kernel_rfl)) (fun _ h => by cases h)
                exact step7_value (i := 12) rfl rfl (run_op_move rfl t105) (calm7 (fun fs vs x y h hl => LenJ.later h hl) (by kernel_rfl) (by kernel_rfl) hj (later_refl _)) rfl
              · intro listed a W H hj hl hd
                have t106 : a.tmps.getD 106 undef = .bool false := H.get 12 106 (by kernel_rfl) (dep_of hd 12 (by kernel_rfl)) (fun _ h => by cases h)
                have t7 : a.tmps.getD 7 undef = .pointer (some ⟨gc, 0, none⟩) := (H.old 7 (by kernel_rfl)).trans rfl
                exact step7_value (i := 13) rfl (wanted_at (j := 12) (d := 106) (b := false) rfl (by kernel_rfl) t106) (run_op_move rfl t7) (calm7 (fun fs vs x y h hl => LenJ.later h hl) (by kernel_rfl) (by kernel_rfl) hj (later_refl _)) rfl
              · intro listed a W H hj hl hd
                have t106 : a.tmps.getD 106 undef = .bool false := H.get 12 106 (by kernel_rfl) (dep_of hd 12 (by kernel_rfl)) (fun _ h => by cases h)
                have t13 : a.tmps.getD 13 undef = .slice (some ad) n4 c4 := (H.old 13 (by kernel_rfl)).trans rfl
                exact step7_value (i := 14) rfl (wanted_at (j := 12) (d := 106) (b := false) rfl (by kernel_rfl) t106) (run_op_move rfl t13) (calm7 (fun fs vs x y h hl => LenJ.later h hl) (by kernel_rfl) (by kernel_rfl) hj (later_refl _)) rfl
              · intro listed a W H hj hl hd
                have t106 : a.tmps.getD 106 undef = .bool false := H.get 12 106 (by kernel_rfl) (dep_of hd 12 (by kernel_rfl)) (fun _ h => by cases h)
                have t15 : a.tmps.getD 15 undef = .int .i64 (j : Int) := (H.old 15 (by kernel_rfl)).trans rfl
                exact step7_value (i := 15) rfl (wanted_at (j := 12) (d := 106) (b := false) rfl (by kernel_rfl) t106) (run_op_move rfl t15) (calm7 (fun fs vs x y h hl => LenJ.later h hl) (by kernel_rfl) (by kernel_rfl) hj (later_refl _)) rfl
              · intro listed a W H hj hl hd
                have t106 : a.tmps.getD 106 undef = .bool false := H.get 12 106 (by kernel_rfl) (dep_of hd 12 (by kernel_rfl)) (fun _ h => by cases h)
                have t108 : a.tmps.getD 108 undef = .slice (some ad) n4 c4 := H.get 14 108 (by kernel_rfl) (dep_of hd 14 (by kernel_rfl)) (fun _ h => by cases h)
                have t109 : a.tmps.getD 109 undef = .int .i64 (j : Int) := H.get 15 109 (by kernel_rfl) (dep_of hd 15 (by kernel_rfl)) (fun _ h => by cases h)
                exact step7_value (i := 16) rfl (wanted_at (j := 12) (d := 106) (b := false) rfl (by kernel_rfl) t106) (run_op_index rfl t108 t109 (run_index_i ad n4 c4 j hlj W)) (calm7 (fun fs vs x y h hl => LenJ.later h hl) (by kernel_rfl) (by kernel_rfl) hj (later_refl _)) rfl
              · intro listed a W H hj hl hd
                have t106 : a.tmps.getD 106 undef = .bool false := H.get 12 106 (by kernel_rfl) (dep_of hd 12 (by kernel_rfl)) (fun _ h => by cases h)
                have t110 : a.tmps.getD 110 undef = .pointer (some (ad.add j)) := H.get 16 110 (by kernel_rfl) (dep_of hd 16 (by kernel_rfl)) (fun _ h => by cases h)
                exact step7_value (i := 17) rfl (wanted_at (j := 12) (d := 106) (b := false) rfl (by kernel_rfl) t106) (run_op_load rfl t110 (run_load_i64s _ _ W (HC0.out W hj.below))) (calm7 (fun fs vs x y h hl => LenJ.later h hl) (by kernel_rfl) (by kernel_rfl) hj (later_refl _)) rfl
              · intro listed a W H hj hl hd
                have t106 : a.tmps.getD 106 undef = .bool false := H.get 12 106 (by kernel_rfl) (dep_of hd 12 (by kernel_rfl)) (fun _ h => by cases h)
                have t107 : a.tmps.getD 107 undef = .pointer (some ⟨gc, 0, none⟩) := H.get 13 107 (by kernel_rfl) (dep_of hd 13 (by kernel_rfl)) (fun _ h => by cases h)
                have t111 : a.tmps.getD 111 undef = .int .i64 (b : Int) := H.get 17 111 (by kernel_rfl) (dep_of hd 17 (by kernel_rfl)) (fun _ h => by cases h)
                refine step7_call (i := 18) rfl (wanted_at (j := 12) (d := 106) (b := false) rfl (by kernel_rfl) t106) (run_op_call (vs := #[.pointer (some ⟨gc, 0, none⟩), .int .i64 (b : Int)]) Tryz.func19 (by kernel_rfl) (by kernel_rfl) rfl (by simp only [List.map_toArray, List.map_cons, List.map_nil]; show (#[a.tmps.getD 107 undef, a.tmps.getD 111 undef] : Array Value) = _; rw [t107, t111])) ?_
                refine (HCM.out W hj.below).mono ?_
                rintro e w' ⟨rfl, hb9⟩
                exact ⟨_, rfl, (calm7 (fun fs vs x y h hl => LenJ.later h hl) (by kernel_rfl) (by kernel_rfl) hj hb9.out), rfl⟩
              · intro listed a W H hj hl hd
                have t106 : a.tmps.getD 106 undef = .bool false := H.get 12 106 (by kernel_rfl) (dep_of hd 12 (by kernel_rfl)) (fun _ h => by cases h)
                have t112 : a.tmps.getD 112 undef = .bool false := H.get 18 112 (by kernel_rfl) (dep_of hd 18 (by kernel_rfl)) (fun _ h => by cases h)
                exact step7_value (i := 19) rfl rfl (run_op_pickF rfl t106 t112) (calm7 (fun fs vs x y h hl => LenJ.later h hl) (by kernel_rfl) (by kernel_rfl) hj (later_refl _)) rfl
              · intro listed a W H hj hl hd
                have t113 : a.tmps.getD 113 undef = .bool false := H.get 19 113 (by kernel_rfl) (dep_of hd 19 (by kernel_rfl)) (fun _ h => by cases h)
                exact step7_value (i := 20) rfl rfl (run_op_move rfl t113) (calm7 (fun fs vs x y h hl => LenJ.later h hl) (by kernel_rfl) (by kernel_rfl) hj (later_refl _)) rfl
              · intro listed a W H hj hl hd
                have t114 : a.tmps.getD 114 undef = .bool false := H.get 20 114 (by kernel_rfl) (dep_of hd 20 (by kernel_rfl)) (fun _ h => by cases h)
                have t8 : a.tmps.getD 8 undef = .pointer (some ⟨g, 0, none⟩) := (H.old 8 (by kernel_rfl)).trans rfl
                exact step7_value (i := 21) rfl (wanted_at (j := 20) (d := 114) (b := false) rfl (by kernel_rfl) t114) (run_op_move rfl t8) (calm7 (fun fs vs x y h hl => LenJ.later h hl) (by kernel_rfl) (by kernel_rfl) hj (later_refl _)) rfl
              · intro listed a W H hj hl hd
                have t114 : a.tmps.getD 114 undef = .bool false := H.get 20 114 (by kernel_rfl) (dep_of hd 20 (by kernel_rfl)) (fun _ h => by cases h)
                have t13 : a.tmps.getD 13 undef = .slice (some ad) n4 c4 := (H.old 13 (by kernel_rfl)).trans rfl
                exact step7_value (i := 22) rfl (wanted_at (j := 20) (d := 114) (b := false) rfl (by kernel_rfl) t114) (run_op_move rfl t13) (calm7 (fun fs vs x y h hl => LenJ.later h hl) (by kernel_rfl) (by kernel_rfl) hj (later_refl _)) rfl
              · intro listed a W H hj hl hd
                have t114 : a.tmps.getD 114 undef = .bool false := H.get 20 114 (by kernel_rfl) (dep_of hd 20 (by kernel_rfl)) (fun _ h => by cases h)
                have t15 : a.tmps.getD 15 undef = .int .i64 (j : Int) := (H.old 15 (by kernel_rfl)).trans rfl
                exact step7_value (i := 23) rfl (wanted_at (j := 20) (d := 114) (b := false) rfl (by kernel_rfl) t114) (run_op_move rfl t15) (calm7 (fun fs vs x y h hl => LenJ.later h hl) (by kernel_rfl) (by kernel_rfl) hj (later_refl _)) rfl
              · intro listed a W H hj hl hd
                have t114 : a.tmps.getD 114 undef = .bool false := H.get 20 114 (by kernel_rfl) (dep_of hd 20 (by kernel_rfl)) (fun _ h => by cases h)
                have t116 : a.tmps.getD 116 undef = .slice (some ad) n4 c4 := H.get 22 116 (by kernel_rfl) (dep_of hd 22 (by kernel_rfl)) (fun _ h => by cases h)
                have t117 : a.tmps.getD 117 undef = .int .i64 (j : Int) := H.get 23 117 (by kernel_rfl) (dep_of hd 23 (by kernel_rfl)) (fun _ h => by cases h)
                exact step7_value (i := 24) rfl (wanted_at (j := 20) (d := 114) (b := false) rfl (by kernel_rfl) t114) (run_op_index rfl t116 t117 (run_index_i ad n4 c4 j hlj W)) (calm7 (fun fs vs x y h hl => LenJ.later h hl) (by kernel_rfl) (by kernel_rfl) hj (later_refl _)) rfl
              · intro listed a W H hj hl hd
                have t114 : a.tmps.getD 114 undef = .bool false := H.get 20 114 (by kernel_rfl) (dep_of hd 20 (by kernel_rfl)) (fun _ h => by cases h)
                have t118 : a.tmps.getD 118 undef = .pointer (some (ad.add j)) := H.get 24 118 (by kernel_rfl) (dep_of hd 24 (by kernel_rfl)) (fun _ h => by cases h)
                exact step7_value (i := 25) rfl (wanted_at (j := 20) (d := 114) (b := false) rfl (by kernel_rfl) t114) (run_op_load rfl t118 (run_load_i64s _ _ W (HC0.out W hj.below))) (calm7 (fun fs vs x y h hl => LenJ.later h hl) (by kernel_rfl) (by kernel_rfl) hj (later_refl _)) rfl
              · intro listed a W H hj hl hd
                have t114 : a.tmps.getD 114 undef = .bool false := H.get 20 114 (by kernel_rfl) (dep_of hd 20 (by kernel_rfl)) (fun _ h => by cases h)
                have t115 : a.tmps.getD 115 undef = .pointer (some ⟨g, 0, none⟩) := H.get 21 115 (by kernel_rfl) (dep_of hd 21 (by kernel_rfl)) (fun _ h => by cases h)
                have t119 : a.tmps.getD 119 undef = .int .i64 (b : Int) := H.get 25 119 (by kernel_rfl) (dep_of hd 25 (by kernel_rfl)) (fun _ h => by cases h)
                refine step7_call (i := 26) rfl (wanted_at (j := 20) (d := 114) (b := false) rfl (by kernel_rfl) t114) (run_op_call (vs := #[.pointer (some ⟨g, 0, none⟩), .int .i64 (b : Int)]) Tryz.func20 (by kernel_rfl) (by kernel_rfl) rfl (by simp only [List.map_toArray, List.map_cons, List.map_nil]; show (#[a.tmps.getD 115 undef, a.tmps.getD 119 undef] : Array Value) = _; rw [t115, t119])) ?_
                refine (HCB.out W hj.below).mono ?_
                rintro e w' ⟨A9, m9, c9, rfl, hr9, hb9⟩
                obtain rfl : L = m9 := HLL.out.symm.trans (Kind.Row.len hr9.out)
                have hk9 := (hj.later hb9.out).first (by rw [slots_len]; decide) A9 c9
                rw [← flags_put (m := 26) 0 rfl (by decide), ← slots_at (a := a) (d := 120) 0 rfl (by decide) (by rw [H.size]; exact of_decide_eq_true (by kernel_rfl))] at hk9
                exact ⟨_, rfl, hk9, trivial⟩
              · intro listed a W H hj hl hd
                have t114 : a.tmps.getD 114 undef = .bool false := H.get 20 114 (by kernel_rfl) (dep_of hd 20 (by kernel_rfl)) (fun _ h => by cases h)
                have d120 : listed.getD 26 false = true := dep_of hd 26 (by kernel_rfl)
                have d120 : listed.getD 26 false = true := dep_of hd 26 (by kernel_rfl)
                have f0 : (flags [26] listed).getD 0 false = true := done_true d120
                obtain ⟨A9, c9, e9⟩ := hj.sl f0
                have e9a : a.tmps.getD 120 undef = .slice A9 L c9 := e9
                exact step7_value (i := 27) rfl (wanted_at (j := 20) (d := 114) (b := false) rfl (by kernel_rfl) t114) (run_op_len Tryz.underlying22 rfl e9a) (calm7 (fun fs vs x y h hl => LenJ.later h hl) (by kernel_rfl) (by kernel_rfl) hj (later_refl _)) rfl
              · intro listed a W H hj hl hd
                have t114 : a.tmps.getD 114 undef = .bool false := H.get 20 114 (by kernel_rfl) (dep_of hd 20 (by kernel_rfl)) (fun _ h => by cases h)
                have t121 : a.tmps.getD 121 undef = .int .i64 (L : Int) := H.get 27 121 (by kernel_rfl) (dep_of hd 27 (by kernel_rfl)) (fun _ h => by cases h)
                exact step7_value (i := 28) rfl (wanted_at (j := 20) (d := 114) (b := false) rfl (by kernel_rfl) t114) (run_op_bin rfl t121 rfl (bin_eql _ _ _ (L : Int) 0 false (by first | rfl | (simp; done) | (simp; omega) | decide))) (calm7 (fun fs vs x y h hl => LenJ.later h hl) (by kernel_rfl) (by kernel_rfl) hj (later_refl _)) rfl
              · intro listed a W H hj hl hd
                have t114 : a.tmps.getD 114 undef = .bool false := H.get 20 114 (by kernel_rfl) (dep_of hd 20 (by kernel_rfl)) (fun _ h => by cases h)
                have t122 : a.tmps.getD 122 undef = .bool false := H.get 28 122 (by kernel_rfl) (dep_of hd 28 (by kernel_rfl)) (fun _ h => by cases h)
                exact step7_value (i := 29) rfl rfl (run_op_pickF rfl t114 t122) (calm7 (fun fs vs x y h hl => LenJ.later h hl) (by kernel_rfl) (by kernel_rfl) hj (later_refl _)) rfl
              · intro listed a W H hj hl hd
                have t123 : a.tmps.getD 123 undef = .bool false := H.get 29 123 (by kernel_rfl) (dep_of hd 29 (by kernel_rfl)) (fun _ h => by cases h)
                exact step7_value (i := 30) rfl rfl (run_op_move rfl t123) (calm7 (fun fs vs x y h hl => LenJ.later h hl) (by kernel_rfl) (by kernel_rfl) hj (later_refl _)) rfl
              · intro listed a W H hj hl hd
                have t124 : a.tmps.getD 124 undef = .bool false := H.get 30 124 (by kernel_rfl) (dep_of hd 30 (by kernel_rfl)) (fun _ h => by cases h)
                have t15 : a.tmps.getD 15 undef = .int .i64 (j : Int) := (H.old 15 (by kernel_rfl)).trans rfl
                exact step7_value (i := 31) rfl (wanted_at (j := 30) (d := 124) (b := false) rfl (by kernel_rfl) t124) (run_op_move rfl t15) (calm7 (fun fs vs x y h hl => LenJ.later h hl) (by kernel_rfl) (by kernel_rfl) hj (later_refl _)) rfl
              · intro listed a W H hj hl hd
                have t124 : a.tmps.getD 124 undef = .bool false := H.get 30 124 (by kernel_rfl) (dep_of hd 30 (by kernel_rfl)) (fun _ h => by cases h)
                have t125 : a.tmps.getD 125 undef = .int .i64 (j : Int) := H.get 31 125 (by kernel_rfl) (dep_of hd 31 (by kernel_rfl)) (fun _ h => by cases h)
                exact step7_value (i := 32) rfl (wanted_at (j := 30) (d := 124) (b := false) rfl (by kernel_rfl) t124) (run_op_bin rfl t125 rfl (bin_gtr _ _ _ (j : Int) 0 false (by first | rfl | (simp; done) | (simp; omega) | decide))) (calm7 (fun fs vs x y h hl => LenJ.later h hl) (by kernel_rfl) (by kernel_rfl) hj (later_refl _)) rfl
              · intro listed a W H hj hl hd
                have t124 : a.tmps.getD 124 undef = .bool false := H.get 30 124 (by kernel_rfl) (dep_of hd 30 (by kernel_rfl)) (fun _ h => by cases h)
                have t126 : a.tmps.getD 126 undef = .bool false := H.get 32 126 (by kernel_rfl) (dep_of hd 32 (by kernel_rfl)) (fun _ h => by cases h)
                exact step7_value (i := 33) rfl (wanted_at (j := 30) (d := 124) (b := false) rfl (by kernel_rfl) t124) (run_op_move rfl t126) (calm7 (fun fs vs x y h hl => LenJ.later h hl) (by kernel_rfl) (by kernel_rfl) hj (later_refl _)) rfl
              · intro listed a W H hj hl hd
                have t127 : a.tmps.getD 127 undef = .bool false := H.get 33 127 (by kernel_rfl) (dep_of hd 33 (by kernel_rfl)) (fun _ h => by cases h)
                exact step7_skip (i := 34) rfl (unwanted_at (j := 33) (d := 127) (b := true) (c := false) rfl (by kernel_rfl) t127 rfl) (calm7 (fun fs vs x y h hl => LenJ.later h hl) (by kernel_rfl) (by kernel_rfl) hj (later_refl _)) rfl
              · intro listed a W H hj hl hd
                have t127 : a.tmps.getD 127 undef = .bool false := H.get 33 127 (by kernel_rfl) (dep_of hd 33 (by kernel_rfl)) (fun _ h => by cases h)
                exact step7_skip (i := 35) rfl (unwanted_at (j := 33) (d := 127) (b := true) (c := false) rfl (by kernel_rfl) t127 rfl) (calm7 (fun fs vs x y h hl => LenJ.later h hl) (by kernel_rfl) (by kernel_rfl) hj (later_refl _)) rfl
              · intro listed a W H hj hl hd
                have t127 : a.tmps.getD 127 undef = .bool false := H.get 33 127 (by kernel_rfl) (dep_of hd 33 (by kernel_rfl)) (fun _ h => by cases h)
                exact step7_skip (i := 36) rfl (unwanted_at (j := 33) (d := 127) (b := true) (c := false) rfl (by kernel_rfl) t127 rfl) (calm7 (fun fs vs x y h hl => LenJ.later h hl) (by kernel_rfl) (by kernel_rfl) hj (later_refl _)) rfl
              · intro listed a W H hj hl hd
                have t127 : a.tmps.getD 127 undef = .bool false := H.get 33 127 (by kernel_rfl) (dep_of hd 33 (by kernel_rfl)) (fun _ h => by cases h)
                exact step7_skip (i := 37) rfl (unwanted_at (j := 33) (d := 127) (b := true) (c := false) rfl (by kernel_rfl) t127 rfl) (calm7 (fun fs vs x y h hl => LenJ.later h hl) (by kernel_rfl) (by kernel_rfl) hj (later_refl _)) rfl
              · intro listed a W H hj hl hd
                have t127 : a.tmps.getD 127 undef = .bool false := H.get 33 127 (by kernel_rfl) (dep_of hd 33 (by kernel_rfl)) (fun _ h => by cases h)
                exact step7_skip (i := 38) rfl (unwanted_at (j := 33) (d := 127) (b := true) (c := false) rfl (by kernel_rfl) t127 rfl) (calm7 (fun fs vs x y h hl => LenJ.later h hl) (by kernel_rfl) (by kernel_rfl) hj (later_refl _)) rfl
              · intro listed a W H hj hl hd
                have t127 : a.tmps.getD 127 undef = .bool false := H.get 33 127 (by kernel_rfl) (dep_of hd 33 (by kernel_rfl)) (fun _ h => by cases h)
                exact step7_skip (i := 39) rfl (unwanted_at (j := 33) (d := 127) (b := true) (c := false) rfl (by kernel_rfl) t127 rfl) (calm7 (fun fs vs x y h hl => LenJ.later h hl) (by kernel_rfl) (by kernel_rfl) hj (later_refl _)) rfl
              · intro listed a W H hj hl hd
                have t127 : a.tmps.getD 127 undef = .bool false := H.get 33 127 (by kernel_rfl) (dep_of hd 33 (by kernel_rfl)) (fun _ h => by cases h)
                exact step7_skip (i := 40) rfl (unwanted_at (j := 33) (d := 127) (b := true) (c := false) rfl (by kernel_rfl) t127 rfl) (calm7 (fun fs vs x y h hl => LenJ.later h hl) (by kernel_rfl) (by kernel_rfl) hj (later_refl _)) rfl
              · intro listed a W H hj hl hd
                have t127 : a.tmps.getD 127 undef = .bool false := H.get 33 127 (by kernel_rfl) (dep_of hd 33 (by kernel_rfl)) (fun _ h => by cases h)
                exact step7_skip (i := 41) rfl (unwanted_at (j := 33) (d := 127) (b := true) (c := false) rfl (by kernel_rfl) t127 rfl) (calm7 (fun fs vs x y h hl => LenJ.later h hl) (by kernel_rfl) (by kernel_rfl) hj (later_refl _)) rfl
              · intro listed a W H hj hl hd
                have t127 : a.tmps.getD 127 undef = .bool false := H.get 33 127 (by kernel_rfl) (dep_of hd 33 (by kernel_rfl)) (fun _ h => by cases h)
                exact step7_skip (i := 42) rfl (unwanted_at (j := 33) (d := 127) (b := true) (c := false) rfl (by kernel_rfl) t127 rfl) (calm7 (fun fs vs x y h hl => LenJ.later h hl) (by kernel_rfl) (by kernel_rfl) hj (later_refl _)) rfl
              · intro listed a W H hj hl hd
                have t127 : a.tmps.getD 127 undef = .bool false := H.get 33 127 (by kernel_rfl) (dep_of hd 33 (by kernel_rfl)) (fun _ h => by cases h)
                exact step7_skip (i := 43) rfl (unwanted_at (j := 33) (d := 127) (b := true) (c := false) rfl (by kernel_rfl) t127 rfl) (calm7 (fun fs vs x y h hl => LenJ.later h hl) (by kernel_rfl) (by kernel_rfl) hj (later_refl _)) rfl
              · intro listed a W H hj hl hd
                have t124 : a.tmps.getD 124 undef = .bool false := H.get 30 124 (by kernel_rfl) (dep_of hd 30 (by kernel_rfl)) (fun _ h => by cases h)
                have t127 : a.tmps.getD 127 undef = .bool false := H.get 33 127 (by kernel_rfl) (dep_of hd 33 (by kernel_rfl)) (fun _ h => by cases h)
                exact step7_value (i := 44) rfl (wanted_at (j := 30) (d := 124) (b := false) rfl (by kernel_rfl) t124) (run_op_pickF rfl t127 rfl) (calm7 (fun fs vs x y h hl => LenJ.later h hl) (by kernel_rfl) (by kernel_rfl) hj (later_refl _)) rfl
              · intro listed a W H hj hl hd
                have t124 : a.tmps.getD 124 undef = .bool false := H.get 30 124 (by kernel_rfl) (dep_of hd 30 (by kernel_rfl)) (fun _ h => by cases h)
                have t138 : a.tmps.getD 138 undef = .bool false := H.get 44 138 (by kernel_rfl) (dep_of hd 44 (by kernel_rfl)) (fun _ h => by cases h)
                exact step7_value (i := 45) rfl rfl (run_op_pickF rfl t124 t138) (calm7 (fun fs vs x y h hl => LenJ.later h hl) (by kernel_rfl) (by kernel_rfl) hj (later_refl _)) rfl
            · intro a WC hdef hsz hw hall hact
              obtain ⟨u, hu⟩ : ∃ u : Nat → Value, ∀ k, a.tmps.getD k undef = u k := ⟨_, fun _ => rfl⟩
              have h139 : u 139 = .bool false := by rw [← hu]; exact hall 45 _ rfl
              simp only [hu] at hact
              have hact' : a = ([94, 95, 96, 97, 98, 99, 100, 101, 102, 103, 104, 105, 106, 107, 108, 109, 110, 111, 112, 113, 114, 115, 116, 117, 118, 119, 120, 121, 122, 123, 124, 125, 126, 127, 128, 129, 130, 131, 132, 133, 134, 135, 136, 137, 138, 139] : List Nat).foldl (fun b k => b.put (some k) (u k)) _ := hact
              simp only [List.foldl] at hact'
              simp only [Act.put, List.setIfInBounds_toArray, List.set_cons_succ, List.set_cons_zero] at hact'
              have HAC := Lib.hid hact'
              have HX := Lib.hid hw
              clear hact hact' hall hdef hsz hw
              rw [h139] at HAC
              rw [HAC.out]
              have hbl : Below WD.heap.size WD WC := HX.out.below
              clear hj0
              have c9 := HC0.out WC hbl
              have CB9 := Lib.hid (HCB.out WC hbl)
              have SM9 := Lib.hid (SM.out.since hbl)
              clear hbl HX HAC hu SM HCM HCB HPV HPL
              go_wp2_with fail
              clear c9
              refine CB9.out.mono ?_
              rintro e W9 ⟨A9, m9, c9, rfl, hr9, hb9⟩
              obtain rfl : L = m9 := HLL.out.symm.trans (Kind.Row.len hr9.out)
              have SM10 := Lib.hid (SM9.out.since hb9.out)
              have HAL2 : Hid (allN s2 (j + 1) = tt + L) := by show _ = _; rw [HNX.out, HAL.out]
              clear hr9 hb9 SM9 CB9 HC0
              go_wp2_with fail
              go_roundw
              case rel => exact ⟨j + 1, tt + L, by go_num, by go_num, by omega, by omega, HAL2, SM10⟩
              case measure => simp [intOf]; omega
          · have HPL1 : b1 < b := HPL.out hj0
            refine region_of_steps7 (by kernel_rfl) [some (.slice (some ad) n4 c4), some (.int .i64 (j : Int)), some (.pointer (some (ad.add j))), some (.int .i64 (b : Int)), some (.bool false), some (.bool false), some (.slice (some ad) n4 c4), some (.int .i64 (j : Int)), some (.pointer (some (ad.add j))), some (.int .i64 (b : Int)), some (.bool false), some (.bool false), some (.bool false), some (.pointer (some ⟨gc, 0, none⟩)), some (.slice (some ad) n4 c4), some (.int .i64 (j : Int)), some (.pointer (some (ad.add j))), some (.int .i64 (b : Int)), some (.bool false), some (.bool false), some (.bool false), some (.pointer (some ⟨g, 0, none⟩)), some (.slice (some ad) n4 c4), some (.int .i64 (j : Int)), some (.pointer (some (ad.add j))), some (.int .i64 (b : Int)), none, some (.int .i64 (L : Int)), some (.bool false), some (.bool false), some (.bool false), some (.int .i64 (j : Int)), some (.bool true), some (.bool true), some (.slice (some ad) n4 c4), some (.int .i64 (j : Int)), some (.pointer (some (ad.add j))), some (.int .i64 (b : Int)), some (.slice (some ad) n4 c4), some (.int .i64 (j : Int)), some (.int .i64 ((j - 1 : Nat) : Int)), some (.pointer (some (ad.add (j - 1)))), some (.int .i64 (b1 : Int)), some (.bool false), some (.bool false), some (.bool false)] [26] [120] (LenJ WD L) (by kernel_rfl) (by kernel_rfl) ⟨(Below.refl _ _).drew, fun e => by cases e⟩ ?_ ?_
            · refine Steps7.cons ?_ (Steps7.cons ?_ (Steps7.cons ?_ (Steps7.cons ?_ (Steps7.cons ?_ (Steps7.cons ?_ (Steps7.cons ?_ (Steps7.cons ?_ (Steps7.cons ?_ (Steps7.cons ?_ (Steps7.cons ?_ (Steps7.cons ?_ (Steps7.cons ?_ (Steps7.cons ?_ (Steps7.cons ?_ (Steps7.cons ?_ (Steps7.cons ?_ (Steps7.cons ?_ (Steps7.cons ?_ (Steps7.cons ?_ (Steps7.cons ?_ (Steps7.cons ?_ (Steps7.cons ?_ (Steps7.cons ?_ (Steps7.cons ?_ (Steps7.cons ?_ (Steps7.cons ?_ (Steps7.cons ?_ (Steps7.cons ?_ (Steps7.cons ?_ (Steps7.cons ?_ (Steps7.cons ?_ (Steps7.cons ?_ (Steps7.cons ?_ (Steps7.cons ?_ (Steps7.cons ?_ (Steps7.cons ?_ (Steps7.cons ?_ (Steps7.cons ?_ (Steps7.cons ?_ (Steps7.cons ?_ (Steps7.cons ?_ (Steps7.cons ?_ (Steps7.cons ?_ (Steps7.cons ?_ (Steps7.cons ?_ (Steps7.nil))))))))))))))))))))))))))))))))))))))))))))))
              · intro listed a W H hj hl hd
                have t13 : a.tmps.getD 13 undef = .slice (some ad) n4 c4 := (H.old 13 (by kernel_rfl)).trans rfl
                exact step7_value (i := 0) rfl rfl (run_op_move rfl t13) (calm7 (fun fs vs x y h hl => LenJ.later h hl) (by kernel_rfl) (by kernel_rfl) hj (later_refl _)) rfl
              · intro listed a W H hj hl hd
                have t15 : a.tmps.getD 15 undef = .int .i64 (j : Int) := (H.old 15 (by kernel_rfl)).trans rfl
                exact step7_value (i := 1) rfl rfl (run_op_move rfl t15) (calm7 (fun fs vs x y h hl => LenJ.later h hl) (by kernel_rfl) (by kernel_rfl) hj (later_refl _)) rfl
              · intro listed a W H hj hl hd
                have t94 : a.tmps.getD 94 undef = .slice (some ad) n4 c4 := H.get 0 94 (by kernel_rfl) (dep_of hd 0 (by kernel_rfl)) (fun _ h => by cases h)
                have t95 : a.tmps.getD 95 undef = .int .i64 (j : Int) := H.get 1 95 (by kernel_rfl) (dep_of hd 1 (by kernel_rfl)) (fun _ h => by cases h)
                exact step7_value (i := 2) rfl rfl (run_op_index rfl t94 t95 (run_index_i ad n4 c4 j hlj W)) (calm7 (fun fs vs x y h hl => LenJ.later h hl) (by kernel_rfl) (by kernel_rfl) hj (later_refl _)) rfl
              · intro listed a W H hj hl hd
                have t96 : a.tmps.getD 96 undef = .pointer (some (ad.add j)) := H.get 2 96 (by kernel_rfl) (dep_of hd 2 (by kernel_rfl)) (fun _ h => by cases h)
                exact step7_value (i := 3) rfl rfl (run_op_load rfl t96 (run_load_i64s _ _ W (HC0.out W hj.below))) (calm7 (fun fs vs x y h hl => LenJ.later h hl) (by kernel_rfl) (by kernel_rfl) hj (later_refl _)) rfl
              · intro listed a W H hj hl hd
                have t97 : a.tmps.getD 97 undef = .int .i64 (b : Int) := H.get 3 97 (by kernel_rfl) (dep_of hd 3 (by kernel_rfl)) (fun _ h => by cases h)
                exact step7_value (i := 4) rfl rfl (run_op_bin rfl t97 rfl (bin_lss _ _ _ (b : Int) 0 false (by first | rfl | (simp; done) | (simp; omega) | decide))) (calm7 (fun fs vs x y h hl => LenJ.later h hl) (by kernel_rfl) (by kernel_rfl) hj (later_refl _)) rfl
              · intro listed a W H hj hl hd
                have t98 : a.tmps.getD 98 undef = .bool false := H.get 4 98 (by kernel_rfl) (dep_of hd 4 (by kernel_rfl)) (fun _ h => by cases h)
                exact step7_value (i := 5) rfl rfl (run_op_move rfl t98) (calm7 (fun fs vs x y h hl => LenJ.later h hl) (by kernel_rfl) (by kernel_rfl) hj (later_refl _)) rfl
              · intro listed a W H hj hl hd
                have t99 : a.tmps.getD 99 undef = .bool false := H.get 5 99 (by kernel_rfl) (dep_of hd 5 (by kernel_rfl)) (fun _ h => by cases h)
                have t13 : a.tmps.getD 13 undef = .slice (some ad) n4 c4 := (H.old 13 (by kernel_rfl)).trans rfl
                exact step7_value (i := 6) rfl (wanted_at (j := 5) (d := 99) (b := false) rfl (by kernel_rfl) t99) (run_op_move rfl t13) (calm7 (fun fs vs x y h hl => LenJ.later h hl) (by kernel_rfl) (by kernel_rfl) hj (later_refl _)) rfl
              · intro listed a W H hj hl hd
                have t99 : a.tmps.getD 99 undef = .bool false := H.get 5 99 (by kernel_rfl) (dep_of hd 5 (by kernel_rfl)) (fun _ h => by cases h)
                have t15 : a.tmps.getD 15 undef = .int .i64 (j : Int) := (H.old 15 (by kernel_rfl)).trans rfl
                exact step7_value (i := 7) rfl (wanted_at (j := 5) (d := 99) (b := false) rfl (by kernel_rfl) t99) (run_op_move rfl t15) (calm7 (fun fs vs x y h hl => LenJ.later h hl) (by kernel_rfl) (by kernel_rfl) hj (later_refl _)) rfl
              · intro listed a W H hj hl hd
                have t99 : a.tmps.getD 99 undef = .bool false := H.get 5 99 (by kernel_rfl) (dep_of hd 5 (by kernel_rfl)) (fun _ h => by cases h)
                have t100 : a.tmps.getD 100 undef = .slice (some ad) n4 c4 := H.get 6 100 (by kernel_rfl) (dep_of hd 6 (by kernel_rfl)) (fun _ h => by cases h)
                have t101 : a.tmps.getD 101 undef = .int .i64 (j : Int) := H.get 7 101 (by kernel_rfl) (dep_of hd 7 (by kernel_rfl)) (fun _ h => by cases h)
                exact step7_value (i := 8) rfl (wanted_at (j := 5) (d := 99) (b := false) rfl (by kernel_rfl) t99) (run_op_index rfl t100 t101 (run_index_i ad n4 c4 j hlj W)) (calm7 (fun fs vs x y h hl => LenJ.later h hl) (by kernel_rfl) (by kernel_rfl) hj (later_refl _)) rfl
              · intro listed a W H hj hl hd
                have t99 : a.tmps.getD 99 undef = .bool false := H.get 5 99 (by kernel_rfl) (dep_of hd 5 (by kernel_rfl)) (fun _ h => by cases h)
                have t102 : a.tmps.getD 102 undef = .pointer (some (ad.add j)) := H.get 8 102 (by kernel_rfl) (dep_of hd 8 (by kernel_rfl)) (fun _ h => by cases h)
                exact step7_value (i := 9) rfl (wanted_at (j := 5) (d := 99) (b := false) rfl (by kernel_rfl) t99) (run_op_load rfl t102 (run_load_i64s _ _ W (HC0.out W hj.below))) (calm7 (fun fs vs x y h hl => LenJ.later h hl) (by kernel_rfl) (by kernel_rfl) hj (later_refl _)) rfl
              · intro listed a W H hj hl hd
                have t99 : a.tmps.getD 99 undef = .bool false := H.get 5 99 (by kernel_rfl) (dep_of hd 5 (by kernel_rfl)) (fun _ h => by cases h)
                have t103 : a.tmps.getD 103 undef = .int .i64 (b : Int) := H.get 9 103 (by kernel_rfl) (dep_of hd 9 (by kernel_rfl)) (fun _ h => by cases h)
                exact step7_value (i := 10) rfl (wanted_at (j := 5) (d := 99) (b := false) rfl (by kernel_rfl) t99) (run_op_bin rfl t103 rfl (bin_gtr _ _ _ (b : Int) 15 false (by first | rfl | (simp; done) | (simp; omega) | decide))) (calm7 (fun fs vs x y h hl => LenJ.later h hl) (by kernel_rfl) (by kernel_rfl) hj (later_refl _)) rfl
              · intro listed a W H hj hl hd
                have t99 : a.tmps.getD 99 undef = .bool false := H.get 5 99 (by kernel_rfl) (dep_of hd 5 (by kernel_rfl)) (fun _ h => by cases h)
                have t104 : a.tmps.getD 104 undef = .bool false := H.get 10 104 (by kernel_rfl) (dep_of hd 10 (by kernel_rfl)) (fun _ h => by cases h)
                exact step7_value (i := 11) rfl rfl (run_op_pickF rfl t99 t104) (calm7 (fun fs vs x y h hl => LenJ.later h hl) (by kernel_rfl) (by kernel_rfl) hj (later_refl _)) rfl
              · intro listed a W H hj hl hd
                have t105 : a.tmps.getD 105 undef = .bool false := H.get 11 105 (by kernel_rfl) (dep_of hd 11 (by kernel_rfl)) (fun _ h => by cases h)
                exact step7_value (i := 12) rfl rfl (run_op_move rfl t105) (calm7 (fun fs vs x y h hl => LenJ.later h hl) (by kernel_rfl) (by kernel_rfl) hj (later_refl _)) rfl
              · intro listed a W H hj hl hd
                have t106 : a.tmps.getD 106 undef = .bool false := H.get 12 106 (by kernel_rfl) (dep_of hd 12 (by kernel_rfl)) (fun _ h => by cases h)
                have t7 : a.tmps.getD 7 undef = .pointer (some ⟨gc, 0, none⟩) := (H.old 7 (by kernel_rfl)).trans rfl
                exact step7_value (i := 13) rfl (wanted_at (j := 12) (d := 106) (b := false) rfl (by kernel_rfl) t106) (run_op_move rfl t7) (calm7 (fun fs vs x y h hl => LenJ.later h hl) (by kernel_rfl) (by kernel_rfl) hj (later_refl _)) rfl
              · intro listed a W H hj hl hd
                have t106 : a.tmps.getD 106 undef = .bool false := H.get 12 106 (by kernel_rfl) (dep_of hd 12 (by kernel_rfl)) (fun _ h => by cases h)
                have t13 : a.tmps.getD 13 undef = .slice (some ad) n4 c4 := (H.old 13 (by kernel_rfl)).trans rfl
                exact step7_value (i := 14) rfl (wanted_at (j := 12) (d := 106) (b := false) rfl (by kernel_rfl) t106) (run_op_move rfl t13) (calm7 (fun fs vs x y h hl => LenJ.later h hl) (by kernel_rfl) (by kernel_rfl) hj (later_refl _)) rfl
              · intro listed a W H hj hl hd
                have t106 : a.tmps.getD 106 undef = .bool false := H.get 12 106 (by kernel_rfl) (dep_of hd 12 (by kernel_rfl)) (fun _ h => by cases h)
                have t15 : a.tmps.getD 15 undef = .int .i64 (j : Int) := (H.old 15 (by kernel_rfl)).trans rfl
                exact step7_value (i := 15) rfl (wanted_at (j := 12) (d := 106) (b := false) rfl (by kernel_rfl) t106) (run_op_move rfl t15) (calm7 (fun fs vs x y h hl => LenJ.later h hl) (by kernel_rfl) (by kernel_rfl) hj (later_refl _)) rfl
              · intro listed a W H hj hl hd
                have t106 : a.tmps.getD 106 undef = .bool false := H.get 12 106 (by kernel_rfl) (dep_of hd 12 (by kernel_rfl)) (fun _ h => by cases h)
                have t108 : a.tmps.getD 108 undef = .slice (some ad) n4 c4 := H.get 14 108 (by kernel_rfl) (dep_of hd 14 (by kernel_rfl)) (fun _ h => by cases h)
                have t109 : a.tmps.getD 109 undef = .int .i64 (j : Int) := H.get 15 109 (by kernel_rfl) (dep_of hd 15 (by kernel_rfl)) (fun _ h => by cases h)
                exact step7_value (i := 16) rfl (wanted_at (j := 12) (d := 106) (b := false) rfl (by kernel_rfl) t106) (run_op_index rfl t108 t109 (run_index_i ad n4 c4 j hlj W)) (calm7 (fun fs vs x y h hl => LenJ.later h hl) (by kernel_rfl) (by kernel_rfl) hj (later_refl _)) rfl
              · intro listed a W H hj hl hd
                have t106 : a.tmps.getD 106 undef = .bool false := H.get 12 106 (by kernel_rfl) (dep_of hd 12 (by kernel_rfl)) (fun _ h => by cases h)
                have t110 : a.tmps.getD 110 undef = .pointer (some (ad.add j)) := H.get 16 110 (by kernel_rfl) (dep_of hd 16 (by kernel_rfl)) (fun _ h => by cases h)
                exact step7_value (i := 17) rfl (wanted_at (j := 12) (d := 106) (b := false) rfl (by kernel_rfl) t106) (run_op_load rfl t110 (run_load_i64s _ _ W (HC0.out W hj.below))) (calm7 (fun fs vs x y h hl => LenJ.later h hl) (by kernel_rfl) (by kernel_rfl) hj (later_refl _)) rfl
              · intro listed a W H hj hl hd
                have t106 : a.tmps.getD 106 undef = .bool false := H.get 12 106 (by kernel_rfl) (dep_of hd 12 (by kernel_rfl)) (fun _ h => by cases h)
                have t107 : a.tmps.getD 107 undef = .pointer (some ⟨gc, 0, none⟩) := H.get 13 107 (by kernel_rfl) (dep_of hd 13 (by kernel_rfl)) (fun _ h => by cases h)
                have t111 : a.tmps.getD 111 undef = .int .i64 (b : Int) := H.get 17 111 (by kernel_rfl) (dep_of hd 17 (by kernel_rfl)) (fun _ h => by cases h)
                refine step7_call (i := 18) rfl (wanted_at (j := 12) (d := 106) (b := false) rfl (by kernel_rfl) t106) (run_op_call (vs := #[.pointer (some ⟨gc, 0, none⟩), .int .i64 (b : Int)]) Tryz.func19 (by kernel_rfl) (by kernel_rfl) rfl (by simp only [List.map_toArray, List.map_cons, List.map_nil]; show (#[a.tmps.getD 107 undef, a.tmps.getD 111 undef] : Array Value) = _; rw [t107, t111])) ?_
                refine (HCM.out W hj.below).mono ?_
                rintro e w' ⟨rfl, hb9⟩
                exact ⟨_, rfl, (calm7 (fun fs vs x y h hl => LenJ.later h hl) (by kernel_rfl) (by kernel_rfl) hj hb9.out), rfl⟩
              · intro listed a W H hj hl hd
                have t106 : a.tmps.getD 106 undef = .bool false := H.get 12 106 (by kernel_rfl) (dep_of hd 12 (by kernel_rfl)) (fun _ h => by cases h)
                have t112 : a.tmps.getD 112 undef = .bool false := H.get 18 112 (by kernel_rfl) (dep_of hd 18 (by kernel_rfl)) (fun _ h => by cases h)
                exact step7_value (i := 19) rfl rfl (run_op_pickF rfl t106 t112) (calm7 (fun fs vs x y h hl => LenJ.later h hl) (by kernel_rfl) (by kernel_rfl) hj (later_refl _)) rfl
              · intro listed a W H hj hl hd
                have t113 : a.tmps.getD 113 undef = .bool false := H.get 19 113 (by kernel_rfl) (dep_of hd 19 (by kernel_rfl)) (fun _ h => by cases h)
                exact step7_value (i := 20) rfl rfl (run_op_move rfl t113) (calm7 (fun fs vs x y h hl => LenJ.later h hl) (by kernel_rfl) (by kernel_rfl) hj (later_refl _)) rfl
              · intro listed a W H hj hl hd
                have t114 : a.tmps.getD 114 undef = .bool false := H.get 20 114 (by kernel_rfl) (dep_of hd 20 (by kernel_rfl)) (fun _ h => by cases h)
                have t8 : a.tmps.getD 8 undef = .pointer (some ⟨g, 0, none⟩) := (H.old 8 (by kernel_rfl)).trans rfl
                exact step7_value (i := 21) rfl (wanted_at (j := 20) (d := 114) (b := false) rfl (by kernel_rfl) t114) (run_op_move rfl t8) (calm7 (fun fs vs x y h hl => LenJ.later h hl) (by kernel_rfl) (by kernel_rfl) hj (later_refl _)) rfl
              · intro listed a W H hj hl hd
                have t114 : a.tmps.getD 114 undef = .bool false := H.get 20 114 (by kernel_rfl) (dep_of hd 20 (by kernel_rfl)) (fun _ h => by cases h)
                have t13 : a.tmps.getD 13 undef = .slice (some ad) n4 c4 := (H.old 13 (by kernel_rfl)).trans rfl
                exact step7_value (i := 22) rfl (wanted_at (j := 20) (d := 114) (b := false) rfl (by kernel_rfl) t114) (run_op_move rfl t13) (calm7 (fun fs vs x y h hl => LenJ.later h hl) (by kernel_rfl) (by kernel_rfl) hj (later_refl _)) rfl
              · intro listed a W H hj hl hd
                have t114 : a.tmps.getD 114 undef = .bool false := H.get 20 114 (by kernel_rfl) (dep_of hd 20 (by kernel_rfl)) (fun _ h => by cases h)
                have t15 : a.tmps.getD 15 undef = .int .i64 (j : Int) := (H.old 15 (by kernel_rfl)).trans rfl
                exact step7_value (i := 23) rfl (wanted_at (j := 20) (d := 114) (b := false) rfl (by kernel_rfl) t114) (run_op_move rfl t15) (calm7 (fun fs vs x y h hl => LenJ.later h hl) (by kernel_rfl) (by kernel_rfl) hj (later_refl _)) rfl
              · intro listed a W H hj hl hd
                have t114 : a.tmps.getD 114 undef = .bool false := H.get 20 114 (by kernel_rfl) (dep_of hd 20 (by kernel_rfl)) (fun _ h => by cases h)
                have t116 : a.tmps.getD 116 undef = .slice (some ad) n4 c4 := H.get 22 116 (by kernel_rfl) (dep_of hd 22 (by kernel_rfl)) (fun _ h => by cases h)
                have t117 : a.tmps.getD 117 undef = .int .i64 (j : Int) := H.get 23 117 (by kernel_rfl) (dep_of hd 23 (by kernel_rfl)) (fun _ h => by cases h)
                exact step7_value (i := 24) rfl (wanted_at (j := 20) (d := 114) (b := false) rfl (by kernel_rfl) t114) (run_op_index rfl t116 t117 (run_index_i ad n4 c4 j hlj W)) (calm7 (fun fs vs x y h hl => LenJ.later h hl) (by kernel_rfl) (by kernel_rfl) hj (later_refl _)) rfl
              · intro listed a W H hj hl hd
                have t114 : a.tmps.getD 114 undef = .bool false := H.get 20 114 (by kernel_rfl) (dep_of hd 20 (by kernel_rfl)) (fun _ h => by cases h)
                have t118 : a.tmps.getD 118 undef = .pointer (some (ad.add j)) := H.get 24 118 (by kernel_rfl) (dep_of hd 24 (by kernel_rfl)) (fun _ h => by cases h)
                exact step7_value (i := 25) rfl (wanted_at (j := 20) (d := 114) (b := false) rfl (by kernel_rfl) t114) (run_op_load rfl t118 (run_load_i64s _ _ W (HC0.out W hj.below))) (calm7 (fun fs vs x y h hl => LenJ.later h hl) (by kernel_rfl) (by kernel_rfl) hj (later_refl _)) rfl
              · intro listed a W H hj hl hd
                have t114 : a.tmps.getD 114 undef = .bool false := H.get 20 114 (by kernel_rfl) (dep_of hd 20 (by kernel_rfl)) (fun _ h => by cases h)
                have t115 : a.tmps.getD 115 undef = .pointer (some ⟨g, 0, none⟩) := H.get 21 115 (by kernel_rfl) (dep_of hd 21 (by kernel_rfl)) (fun _ h => by cases h)
                have t119 : a.tmps.getD 119 undef = .int .i64 (b : Int) := H.get 25 119 (by kernel_rfl) (dep_of hd 25 (by kernel_rfl)) (fun _ h => by cases h)
                refine step7_call (i := 26) rfl (wanted_at (j := 20) (d := 114) (b := false) rfl (by kernel_rfl) t114) (run_op_call (vs := #[.pointer (some ⟨g, 0, none⟩), .int .i64 (b : Int)]) Tryz.func20 (by kernel_rfl) (by kernel_rfl) rfl (by simp only [List.map_toArray, List.map_cons, List.map_nil]; show (#[a.tmps.getD 115 undef, a.tmps.getD 119 undef] : Array Value) = _; rw [t115, t119])) ?_
                refine (HCB.out W hj.below).mono ?_
                rintro e w' ⟨A9, m9, c9, rfl, hr9, hb9⟩
                obtain rfl : L = m9 := HLL.out.symm.trans (Kind.Row.len hr9.out)
                have hk9 := (hj.later hb9.out).first (by rw [slots_len]; decide) A9 c9
                rw [← flags_put (m := 26) 0 rfl (by decide), ← slots_at (a := a) (d := 120) 0 rfl (by decide) (by rw [H.size]; exact of_decide_eq_true (by kernel_rfl))] at hk9
                exact ⟨_, rfl, hk9, trivial⟩
              · intro listed a W H hj hl hd
                have t114 : a.tmps.getD 114 undef = .bool false := H.get 20 114 (by kernel_rfl) (dep_of hd 20 (by kernel_rfl)) (fun _ h => by cases h)
                have d120 : listed.getD 26 false = true := dep_of hd 26 (by kernel_rfl)
                have d120 : listed.getD 26 false = true := dep_of hd 26 (by kernel_rfl)
                have f0 : (flags [26] listed).getD 0 false = true := done_true d120
                obtain ⟨A9, c9, e9⟩ := hj.sl f0
                have e9a : a.tmps.getD 120 undef = .slice A9 L c9 := e9
                exact step7_value (i := 27) rfl (wanted_at (j := 20) (d := 114) (b := false) rfl (by kernel_rfl) t114) (run_op_len Tryz.underlying22 rfl e9a) (calm7 (fun fs vs x y h hl => LenJ.later h hl) (by kernel_rfl) (by kernel_rfl) hj (later_refl _)) rfl
              · intro listed a W H hj hl hd
                have t114 : a.tmps.getD 114 undef = .bool false := H.get 20 114 (by kernel_rfl) (dep_of hd 20 (by kernel_rfl)) (fun _ h => by cases h)
                have t121 : a.tmps.getD 121 undef = .int .i64 (L : Int) := H.get 27 121 (by kernel_rfl) (dep_of hd 27 (by kernel_rfl)) (fun _ h => by cases h)
                exact step7_value (i := 28) rfl (wanted_at (j := 20) (d := 114) (b := false) rfl (by kernel_rfl) t114) (run_op_bin rfl t121 rfl (bin_eql _ _ _ (L : Int) 0 false (by first | rfl | (simp; done) | (simp; omega) | decide))) (calm7 (fun fs vs x y h hl => LenJ.later h hl) (by kernel_rfl) (by kernel_rfl) hj (later_refl _)) rfl
              · intro listed a W H hj hl hd
                have t114 : a.tmps.getD 114 undef = .bool false := H.get 20 114 (by kernel_rfl) (dep_of hd 20 (by kernel_rfl)) (fun _ h => by cases h)
                have t122 : a.tmps.getD 122 undef = .bool false := H.get 28 122 (by kernel_rfl) (dep_of hd 28 (by kernel_rfl)) (fun _ h => by cases h)
                exact step7_value (i := 29) rfl rfl (run_op_pickF rfl t114 t122) (calm7 (fun fs vs x y h hl => LenJ.later h hl) (by kernel_rfl) (by kernel_rfl) hj (later_refl _)) rfl
              · intro listed a W H hj hl hd
                have t123 : a.tmps.getD 123 undef = .bool false := H.get 29 123 (by kernel_rfl) (dep_of hd 29 (by kernel_rfl)) (fun _ h => by cases h)
                exact step7_value (i := 30) rfl rfl (run_op_move rfl t123) (calm7 (fun fs vs x y h hl => LenJ.later h hl) (by kernel_rfl) (by kernel_rfl) hj (later_refl _)) rfl
              · intro listed a W H hj hl hd
                have t124 : a.tmps.getD 124 undef = .bool false := H.get 30 124 (by kernel_rfl) (dep_of hd 30 (by kernel_rfl)) (fun _ h => by cases h)
                have t15 : a.tmps.getD 15 undef = .int .i64 (j : Int) := (H.old 15 (by kernel_rfl)).trans rfl
                exact step7_value (i := 31) rfl (wanted_at (j := 30) (d := 124) (b := false) rfl (by kernel_rfl) t124) (run_op_move rfl t15) (calm7 (fun fs vs x y h hl => LenJ.later h hl) (by kernel_rfl) (by kernel_rfl) hj (later_refl _)) rfl
              · intro listed a W H hj hl hd
                have t124 : a.tmps.getD 124 undef = .bool false := H.get 30 124 (by kernel_rfl) (dep_of hd 30 (by kernel_rfl)) (fun _ h => by cases h)
                have t125 : a.tmps.getD 125 undef = .int .i64 (j : Int) := H.get 31 125 (by kernel_rfl) (dep_of hd 31 (by kernel_rfl)) (fun _ h => by cases h)
                exact step7_value (i := 32) rfl (wanted_at (j := 30) (d := 124) (b := false) rfl (by kernel_rfl) t124) (run_op_bin rfl t125 rfl (bin_gtr _ _ _ (j : Int) 0 true (by first | rfl | (simp; done) | (simp; omega) | decide))) (calm7 (fun fs vs x y h hl => LenJ.later h hl) (by kernel_rfl) (by kernel_rfl) hj (later_refl _)) rfl
              · intro listed a W H hj hl hd
                have t124 : a.tmps.getD 124 undef = .bool false := H.get 30 124 (by kernel_rfl) (dep_of hd 30 (by kernel_rfl)) (fun _ h => by cases h)
                have t126 : a.tmps.getD 126 undef = .bool true := H.get 32 126 (by kernel_rfl) (dep_of hd 32 (by kernel_rfl)) (fun _ h => by cases h)
                exact step7_value (i := 33) rfl (wanted_at (j := 30) (d := 124) (b := false) rfl (by kernel_rfl) t124) (run_op_move rfl t126) (calm7 (fun fs vs x y h hl => LenJ.later h hl) (by kernel_rfl) (by kernel_rfl) hj (later_refl _)) rfl
              · intro listed a W H hj hl hd
                have t127 : a.tmps.getD 127 undef = .bool true := H.get 33 127 (by kernel_rfl) (dep_of hd 33 (by kernel_rfl)) (fun _ h => by cases h)
                have t13 : a.tmps.getD 13 undef = .slice (some ad) n4 c4 := (H.old 13 (by kernel_rfl)).trans rfl
                exact step7_value (i := 34) rfl (wanted_at (j := 33) (d := 127) (b := true) rfl (by kernel_rfl) t127) (run_op_move rfl t13) (calm7 (fun fs vs x y h hl => LenJ.later h hl) (by kernel_rfl) (by kernel_rfl) hj (later_refl _)) rfl
              · intro listed a W H hj hl hd
                have t127 : a.tmps.getD 127 undef = .bool true := H.get 33 127 (by kernel_rfl) (dep_of hd 33 (by kernel_rfl)) (fun _ h => by cases h)
                have t15 : a.tmps.getD 15 undef = .int .i64 (j : Int) := (H.old 15 (by kernel_rfl)).trans rfl
                exact step7_value (i := 35) rfl (wanted_at (j := 33) (d := 127) (b := true) rfl (by kernel_rfl) t127) (run_op_move rfl t15) (calm7 (fun fs vs x y h hl => LenJ.later h hl) (by kernel_rfl) (by kernel_rfl) hj (later_refl _)) rfl
              · intro listed a W H hj hl hd
                have t127 : a.tmps.getD 127 undef = .bool true := H.get 33 127 (by kernel_rfl) (dep_of hd 33 (by kernel_rfl)) (fun _ h => by cases h)
                have t128 : a.tmps.getD 128 undef = .slice (some ad) n4 c4 := H.get 34 128 (by kernel_rfl) (dep_of hd 34 (by kernel_rfl)) (fun _ h => by cases h)
                have t129 : a.tmps.getD 129 undef = .int .i64 (j : Int) := H.get 35 129 (by kernel_rfl) (dep_of hd 35 (by kernel_rfl)) (fun _ h => by cases h)
                exact step7_value (i := 36) rfl (wanted_at (j := 33) (d := 127) (b := true) rfl (by kernel_rfl) t127) (run_op_index rfl t128 t129 (run_index_i ad n4 c4 j hlj W)) (calm7 (fun fs vs x y h hl => LenJ.later h hl) (by kernel_rfl) (by kernel_rfl) hj (later_refl _)) rfl
              · intro listed a W H hj hl hd
                have t127 : a.tmps.getD 127 undef = .bool true := H.get 33 127 (by kernel_rfl) (dep_of hd 33 (by kernel_rfl)) (fun _ h => by cases h)
                have t130 : a.tmps.getD 130 undef = .pointer (some (ad.add j)) := H.get 36 130 (by kernel_rfl) (dep_of hd 36 (by kernel_rfl)) (fun _ h => by cases h)
                exact step7_value (i := 37) rfl (wanted_at (j := 33) (d := 127) (b := true) rfl (by kernel_rfl) t127) (run_op_load rfl t130 (run_load_i64s _ _ W (HC0.out W hj.below))) (calm7 (fun fs vs x y h hl => LenJ.later h hl) (by kernel_rfl) (by kernel_rfl) hj (later_refl _)) rfl
              · intro listed a W H hj hl hd
                have t127 : a.tmps.getD 127 undef = .bool true := H.get 33 127 (by kernel_rfl) (dep_of hd 33 (by kernel_rfl)) (fun _ h => by cases h)
                have t13 : a.tmps.getD 13 undef = .slice (some ad) n4 c4 := (H.old 13 (by kernel_rfl)).trans rfl
                exact step7_value (i := 38) rfl (wanted_at (j := 33) (d := 127) (b := true) rfl (by kernel_rfl) t127) (run_op_move rfl t13) (calm7 (fun fs vs x y h hl => LenJ.later h hl) (by kernel_rfl) (by kernel_rfl) hj (later_refl _)) rfl
              · intro listed a W H hj hl hd
                have t127 : a.tmps.getD 127 undef = .bool true := H.get 33 127 (by kernel_rfl) (dep_of hd 33 (by kernel_rfl)) (fun _ h => by cases h)
                have t15 : a.tmps.getD 15 undef = .int .i64 (j : Int) := (H.old 15 (by kernel_rfl)).trans rfl
                exact step7_value (i := 39) rfl (wanted_at (j := 33) (d := 127) (b := true) rfl (by kernel_rfl) t127) (run_op_move rfl t15) (calm7 (fun fs vs x y h hl => LenJ.later h hl) (by kernel_rfl) (by kernel_rfl) hj (later_refl _)) rfl
              · intro listed a W H hj hl hd
                have t127 : a.tmps.getD 127 undef = .bool true := H.get 33 127 (by kernel_rfl) (dep_of hd 33 (by kernel_rfl)) (fun _ h => by cases h)
                have t133 : a.tmps.getD 133 undef = .int .i64 (j : Int) := H.get 39 133 (by kernel_rfl) (dep_of hd 39 (by kernel_rfl)) (fun _ h => by cases h)
                exact step7_value (i := 40) rfl (wanted_at (j := 33) (d := 127) (b := true) rfl (by kernel_rfl) t127) (run_op_bin rfl t133 rfl (bin_sub _ _ _ (j : Int) 1 ((j - 1 : Nat) : Int) (by omega) (by omega) (by omega))) (calm7 (fun fs vs x y h hl => LenJ.later h hl) (by kernel_rfl) (by kernel_rfl) hj (later_refl _)) rfl
              · intro listed a W H hj hl hd
                have t127 : a.tmps.getD 127 undef = .bool true := H.get 33 127 (by kernel_rfl) (dep_of hd 33 (by kernel_rfl)) (fun _ h => by cases h)
                have t132 : a.tmps.getD 132 undef = .slice (some ad) n4 c4 := H.get 38 132 (by kernel_rfl) (dep_of hd 38 (by kernel_rfl)) (fun _ h => by cases h)
                have t134 : a.tmps.getD 134 undef = .int .i64 ((j - 1 : Nat) : Int) := H.get 40 134 (by kernel_rfl) (dep_of hd 40 (by kernel_rfl)) (fun _ h => by cases h)
                exact step7_value (i := 41) rfl (wanted_at (j := 33) (d := 127) (b := true) rfl (by kernel_rfl) t127) (run_op_index rfl t132 t134 (run_index_i ad n4 c4 (j - 1) (by omega) W)) (calm7 (fun fs vs x y h hl => LenJ.later h hl) (by kernel_rfl) (by kernel_rfl) hj (later_refl _)) rfl
              · intro listed a W H hj hl hd
                have t127 : a.tmps.getD 127 undef = .bool true := H.get 33 127 (by kernel_rfl) (dep_of hd 33 (by kernel_rfl)) (fun _ h => by cases h)
                have t135 : a.tmps.getD 135 undef = .pointer (some (ad.add (j - 1))) := H.get 41 135 (by kernel_rfl) (dep_of hd 41 (by kernel_rfl)) (fun _ h => by cases h)
                exact step7_value (i := 42) rfl (wanted_at (j := 33) (d := 127) (b := true) rfl (by kernel_rfl) t127) (run_op_load rfl t135 (run_load_i64s _ _ W (HPV.out hj0 W hj.below))) (calm7 (fun fs vs x y h hl => LenJ.later h hl) (by kernel_rfl) (by kernel_rfl) hj (later_refl _)) rfl
              · intro listed a W H hj hl hd
                have t127 : a.tmps.getD 127 undef = .bool true := H.get 33 127 (by kernel_rfl) (dep_of hd 33 (by kernel_rfl)) (fun _ h => by cases h)
                have t131 : a.tmps.getD 131 undef = .int .i64 (b : Int) := H.get 37 131 (by kernel_rfl) (dep_of hd 37 (by kernel_rfl)) (fun _ h => by cases h)
                have t136 : a.tmps.getD 136 undef = .int .i64 (b1 : Int) := H.get 42 136 (by kernel_rfl) (dep_of hd 42 (by kernel_rfl)) (fun _ h => by cases h)
                exact step7_value (i := 43) rfl (wanted_at (j := 33) (d := 127) (b := true) rfl (by kernel_rfl) t127) (run_op_bin rfl t131 t136 (bin_leq _ _ _ (b : Int) (b1 : Int) false (by first | rfl | (simp; done) | (simp; omega) | decide))) (calm7 (fun fs vs x y h hl => LenJ.later h hl) (by kernel_rfl) (by kernel_rfl) hj (later_refl _)) rfl
              · intro listed a W H hj hl hd
                have t124 : a.tmps.getD 124 undef = .bool false := H.get 30 124 (by kernel_rfl) (dep_of hd 30 (by kernel_rfl)) (fun _ h => by cases h)
                have t127 : a.tmps.getD 127 undef = .bool true := H.get 33 127 (by kernel_rfl) (dep_of hd 33 (by kernel_rfl)) (fun _ h => by cases h)
                have t137 : a.tmps.getD 137 undef = .bool false := H.get 43 137 (by kernel_rfl) (dep_of hd 43 (by kernel_rfl)) (fun _ h => by cases h)
                exact step7_value (i := 44) rfl (wanted_at (j := 30) (d := 124) (b := false) rfl (by kernel_rfl) t124) (run_op_pick rfl t127 t137) (calm7 (fun fs vs x y h hl => LenJ.later h hl) (by kernel_rfl) (by kernel_rfl) hj (later_refl _)) rfl
              · intro listed a W H hj hl hd
                have t124 : a.tmps.getD 124 undef = .bool false := H.get 30 124 (by kernel_rfl) (dep_of hd 30 (by kernel_rfl)) (fun _ h => by cases h)
                have t138 : a.tmps.getD 138 undef = .bool false := H.get 44 138 (by kernel_rfl) (dep_of hd 44 (by kernel_rfl)) (fun _ h => by cases h)
                exact step7_value (i := 45) rfl rfl (run_op_pickF rfl t124 t138) (calm7 (fun fs vs x y h hl => LenJ.later h hl) (by kernel_rfl) (by kernel_rfl) hj (later_refl _)) rfl
            · intro a WC hdef hsz hw hall hact
              obtain ⟨u, hu⟩ : ∃ u : Nat → Value, ∀ k, a.tmps.getD k undef = u k := ⟨_, fun _ => rfl⟩
              have h139 : u 139 = .bool false := by rw [← hu]; exact hall 45 _ rfl
              simp only [hu] at hact
              have hact' : a = ([94, 95, 96, 97, 98, 99, 100, 101, 102, 103, 104, 105, 106, 107, 108, 109, 110, 111, 112, 113, 114, 115, 116, 117, 118, 119, 120, 121, 122, 123, 124, 125, 126, 127, 128, 129, 130, 131, 132, 133, 134, 135, 136, 137, 138, 139] : List Nat).foldl (fun b k => b.put (some k) (u k)) _ := hact
              simp only [List.foldl] at hact'
              simp only [Act.put, List.setIfInBounds_toArray, List.set_cons_succ, List.set_cons_zero] at hact'
              have HAC := Lib.hid hact'
              have HX := Lib.hid hw
              clear hact hact' hall hdef hsz hw
              rw [h139] at HAC
              rw [HAC.out]
              have hbl : Below WD.heap.size WD WC := HX.out.below
              clear hj0
              have c9 := HC0.out WC hbl
              have CB9 := Lib.hid (HCB.out WC hbl)
              have SM9 := Lib.hid (SM.out.since hbl)
              clear hbl HX HAC hu SM HCM HCB HPV HPL HPL1
              go_wp2_with fail
              clear c9
              refine CB9.out.mono ?_
              rintro e W9 ⟨A9, m9, c9, rfl, hr9, hb9⟩
              obtain rfl : L = m9 := HLL.out.symm.trans (Kind.Row.len hr9.out)
              have SM10 := Lib.hid (SM9.out.since hb9.out)
              have HAL2 : Hid (allN s2 (j + 1) = tt + L) := by show _ = _; rw [HNX.out, HAL.out]
              clear hr9 hb9 SM9 CB9 HC0
              go_wp2_with fail
              go_roundw
              case rel => exact ⟨j + 1, tt + L, by go_num, by go_num, by omega, by omega, HAL2, SM10⟩
              case measure => simp [intOf]; omega
        · have j1 : ¬ (j : Int) < (n4 : Int) := by omega
          obtain ⟨d, hd4, hcn⟩ := HSE.out.left
          have hal : tt + d = cntN s2 := by
            rw [hcn, ← HAL.out]
            unfold allN
            rw [List.take_of_length_le (by rw [HL4.out]; omega)]
          obtain ⟨nn, _, hsn⟩ := SM.out.st
          have CN := Lib.hid (needed_any hsn)
          have hnl := needed_len HSE.out.si
          obtain ⟨ys, HYS⟩ : ∃ ys, Hid (neededS s2 = ys) := ⟨_, rfl⟩
          rw [HYS.out] at CN hnl
          have HNL := Lib.hid hnl
          have HBD : Hid (∀ W, Below WD.heap.size WD W → Calls Tryz.prog 22 #[.pointer (some ⟨g, 0, none⟩)] W (SaysI W ((listY s2.y 4).length : Int))) := fun W hb => by
            obtain ⟨nn, _, hsn⟩ := SM.out.st.since hb
            exact bad_any hsn
          have hbd := HSE.out.bad
          rw [HXL.out] at hbd
          obtain ⟨B, HBB⟩ : ∃ B, Hid ((listY s2.y 4).length = B) := ⟨_, rfl⟩
          rw [HBB.out] at HBD hbd
          have hBn : (B : Int) ≤ (n : Int) := by omega
          clear hsn hnl hcn hbd
          go_wp2_with fail
          refine CN.out.mono ?_
          rintro e W5 ⟨A5, n5, c5, rfl, hr5, hb5⟩
          have h5 : n5 = tt + d := by rw [hal, ← HNL.out]; exact (Kind.Row.len hr5.out).symm
          have e1 : -9223372036854775808 ≤ (n5 : Int) - (tt : Int) := by omega
          have e2 : (n5 : Int) - (tt : Int) ≤ 9223372036854775807 := by omega
          have e3 : (0 : Int) ≤ (n5 : Int) - (tt : Int) := by omega
          have e4 : (n5 : Int) - (tt : Int) ≤ 4 := by omega
          have CB9 := Lib.hid (HBD.out W5 hb5.out)
          have S5 := Lib.hid (below_chain SM.out.b hb5.out)
          clear hr5 hb5 h5 hal CN HBD SM
          go_wp2_with fail
          refine CB9.out.mono ?_
          rintro e W6 ⟨rfl, hb6⟩
          have S6 := Lib.hid (below_chain S5.out hb6.out)
          clear hb6 S5 CB9
          go_wp2_with fail
          refine (sawake_any W6 (HT.out.since S6.out) (HW.out.since S6.out)).mono ?_
          rintro e W7 ⟨rfl, hb7⟩
          have S7 := Lib.hid (below_chain S6.out hb7.out)
          clear hb7 S6
          go_wp2_with fail
          go_ret
          exact ⟨rfl, S7.out⟩
end Go.Proofs.YthgkdnegnecnjaaGreatDoor
