/- NandDark: true, whatever its arguments are. No conditions. -/
import Derived.Test.YtgamjffedlkbeaaNandAwake
import Derived.Test.YtgamjffedlkbeaaFill
set_option linter.unusedVariables false
set_option linter.unusedSimpArgs false
namespace Go.Proofs.Ytgamjffedlkbeaa
open Go.RowKit

def darkS (y fl : Int) : Chip := Chip.fresh 2 2 128 [] [⟨2, 2, y, fl⟩]
theorem dark_may (y fl : Int) (h0 : 0 ≤ y) (h1 : y < 157) : Chip.mayNew 2 2 128 [] [⟨2, 2, y, fl⟩] = true := by
  have e : okM ⟨2, 2, y, fl⟩ = true := decide_eq_true ⟨by show (1 : Int) ≤ 2; decide, by show (2 : Int) ≤ 1073741824; decide, Or.inr rfl, h0, by show y ≤ 65536; omega⟩
  have m : mayM [⟨2, 2, y, fl⟩] = true := mayM_yes (by show 1 ≤ 24; decide) fun k hk => by
    obtain rfl : k = 0 := by have : k < 1 := hk; omega
    show (okM ⟨2, 2, y, fl⟩ && _) = true
    rw [e]; rfl
  unfold Chip.mayNew
  rw [m]; rfl
theorem part_len {r o : List Nat} {k : Nat} (h : r.length = o.length) : (Chip.part r o k).length = o.length := by
  unfold Chip.part
  rw [List.length_append, List.length_take, List.length_drop]; omega
theorem part_at {r o : List Nat} {k i : Nat} (h : r.length = o.length) (hi : i < o.length) : (Chip.part r o k).getD i 0 = if i < k then r.getD i 0 else o.getD i 0 := by
  unfold Chip.part
  rw [List.getD_eq_getElem?_getD]
  by_cases hik : i < k
  · rw [if_pos hik, List.getElem?_append_left (by rw [List.length_take]; omega), List.getElem?_take_of_lt hik, ← List.getD_eq_getElem?_getD]
  · rw [if_neg hik, List.getElem?_append_right (by rw [List.length_take]; omega), List.length_take, List.getElem?_drop, List.getD_eq_getElem?_getD]
    congr 2
    omega
theorem rep_at {n x i : Nat} (hi : i < n) : (List.replicate n x).getD i 0 = x := by
  rw [List.getD_eq_getElem?_getD, List.getElem?_replicate, if_pos hi]; rfl
/-- What stands on the page, byte by byte. -/
def darkQ (er : Bool) (y fl : Int) (f1 q : List Nat) : Prop := q.length = 156 ∧ ∀ i, i < 156 → q.getD i 0 = if er = true then fl.toNat else if (i : Int) < y then f1.getD i 0 else 255
def darkN (er : Bool) (fl : Int) : Nat := if er = true ∧ fl = 255 then 0 else 2
theorem why2 {s : Chip} {b p : Int} {l : Nat} (h : s.on = true) (h2 : s.nb = 2) (h3 : s.np = 2) (b0 : 0 ≤ b) (b1 : b < 2) (p0 : 0 ≤ p) (p1 : p < 2) (hl : l = s.long) : s.why b p l = 0 :=
  Chip.why_ok h b0 (by rw [h2]; exact b1) p0 (by rw [h3]; exact p1) hl
theorem dark_math0 (y fl : Int) (f0 : List Nat) (h0 : f0.length = 156) : (darkS y fl).program 0 0 f0 = ({ (darkS y fl).tick.setB 0 (Chip.wrote ((darkS y fl).blk 0) 0 f0) with programs := 1 }, 0) :=
  Chip.program_ok (why2 rfl rfl rfl (by decide) (by decide) (by decide) (by decide) h0) rfl rfl rfl rfl rfl
theorem dark_rest {s2 : Chip} (hon : s2.on = false) (h2 : s2.nb = 2) (h3 : s2.np = 2) (hns : s2.ns = 128) (ho : s2.ops = 2) (hb : (atM 3 s2.ms) = none) : s2.read 0 0 = (s2, 4, []) ∧ s2.erase 1 = (s2, 4) ∧ s2.mark 1 = (s2, 4)
    ∧ s2.boot = ({ s2 with on := true }, 0) ∧ Chip.read { s2 with on := true } 0 1 = (Chip.tick { s2 with on := true }, 0, s2.page 0 1) := by
  refine ⟨Chip.read_off hon, Chip.erase_off hon, Chip.mark_off hon, by unfold Chip.boot; rw [if_neg (by rw [hon]; decide)], Chip.read_ok (why2 rfl h2 h3 (by decide) (by decide) (by decide) (by decide) rfl) ?_⟩
  unfold Chip.dark Chip.bef
  show decide ((Option.getD (atM ((s2.ops + 1 : Nat) : Int) s2.ms) M.zero).kind = 2) = false
  rw [ho]
  show decide ((Option.getD (atM 3 s2.ms) M.zero).kind = 2) = false
  rw [hb]; rfl
/-- The chip's ways: s1 behind the first program, s2 behind the dark, s3 booted, s4 read. -/
theorem dark_math (er : Bool) (y fl : Int) (h0 : 0 ≤ y) (hf : 0 ≤ fl) (f0 f1 : List Nat) (l0 : f0.length = 156) (l1 : f1.length = 156) : ∃ s1 s2 s3 s4 : Chip, ∃ q : List Nat, (darkS y fl).program 0 0 f0 = (s1, 0) ∧ s1.ops < 1000000
    ∧ (er = true → s1.erase 0 = (s2, 4)) ∧ (er = false → s1.program 0 1 f1 = (s2, 4)) ∧ s2.ops < 1000000 ∧ s2.read 0 0 = (s2, 4, []) ∧ s2.erase 1 = (s2, 4) ∧ s2.mark 1 = (s2, 4) ∧ s2.on = false ∧ s2.ops = 2 ∧ s2.boot = (s3, 0) ∧ s3.ops < 1000000
    ∧ s3.read 0 1 = (s4, 0, q) ∧ darkQ er y fl f1 q ∧ s4.next 0 = darkN er fl ∧ s4.wear 0 = (if er = true then 1 else 0) ∧ s4.misuse = 0 := by
  obtain ⟨s1, hs1⟩ : ∃ s1, s1 = ({ (darkS y fl).tick.setB 0 (Chip.wrote ((darkS y fl).blk 0) 0 f0) with programs := 1 } : Chip) := ⟨_, rfl⟩
  have e0 := dark_math0 y fl f0 l0
  rw [← hs1] at e0
  have hd : s1.dark = true := by rw [hs1]; rfl
  have hx : s1.fails = false := by rw [hs1]; rfl
  have hbl : s1.blk 0 = Chip.wrote ((darkS y fl).blk 0) 0 f0 := by rw [hs1]; rfl
  cases er with
  | true =>
    have e1 := Chip.erase_dark (s := s1) (b := 0) (why2 (by rw [hs1]; rfl) (by rw [hs1]; rfl) (by rw [hs1]; rfl) (by decide) (by decide) (by decide) (by decide) rfl) (by rw [hbl]; rfl) (by rw [hbl]; rfl) hx hd
    obtain ⟨s2, hs2⟩ : ∃ s2, s2 = (s1.tick.off.setB 0 { s1.blk 0 with pg := s1.filled s1.bef.fill.toNat, next := if s1.bef.fill = 255 then 0 else s1.np, wear := (s1.blk 0).wear + 1 } : Chip) := ⟨_, rfl⟩
    rw [← hs2] at e1
    have hp : s2.page 0 1 = List.replicate 156 fl.toNat := by rw [hs2, hs1]; rfl
    obtain ⟨r1, r2, r3, r4, r5⟩ := dark_rest (s2 := s2) (by rw [hs2]; rfl) (by rw [hs2, hs1]; rfl) (by rw [hs2, hs1]; rfl) (by rw [hs2, hs1]; rfl) (by rw [hs2, hs1]; rfl) (by rw [hs2, hs1]; rfl)
    have ho : s2.ops = 2 := by rw [hs2, hs1]; rfl
    refine ⟨s1, s2, _, _, s2.page 0 1, e0, by rw [hs1]; show 1 < 1000000; decide, fun _ => e1, fun h => (by cases h), by rw [ho]; decide, r1, r2, r3, by rw [hs2]; rfl, ho, r4, by show s2.ops < 1000000; rw [ho]; decide, r5, ?_, ?_, ?_, ?_⟩
    · rw [hp]
      exact ⟨List.length_replicate .., fun i hi => by rw [rep_at hi]; rfl⟩
    · show Chip.next _ 0 = if true = true ∧ fl = 255 then 0 else 2
      have e : (Chip.tick { s2 with on := true }).next 0 = if fl = 255 then 0 else 2 := by rw [hs2, hs1]; rfl
      rw [e]; simp
    · rw [hs2, hs1]; rfl
    · rw [hs2, hs1]; rfl
  | false =>
    have e1 := Chip.program_dark (s := s1) (b := 0) (p := 1) (raw := f1) (why2 (by rw [hs1]; rfl) (by rw [hs1]; rfl) (by rw [hs1]; rfl) (by decide) (by decide) (by decide) (by decide) (by rw [l1, hs1]; rfl)) (by rw [hbl]; rfl) (by rw [hbl]; rfl) (by rw [hbl]; rfl) hd
    obtain ⟨s2, hs2⟩ : ∃ s2, s2 = (s1.tick.off.setB 0 (Chip.wrote (s1.blk 0) 1 (Chip.part f1 (s1.page 0 1) s1.bef.bytes.toNat)) : Chip) := ⟨_, rfl⟩
    rw [← hs2] at e1
    have hp : s2.page 0 1 = Chip.part f1 (List.replicate 156 255) y.toNat := by rw [hs2, hs1]; rfl
    obtain ⟨r1, r2, r3, r4, r5⟩ := dark_rest (s2 := s2) (by rw [hs2]; rfl) (by rw [hs2, hs1]; rfl) (by rw [hs2, hs1]; rfl) (by rw [hs2, hs1]; rfl) (by rw [hs2, hs1]; rfl) (by rw [hs2, hs1]; rfl)
    have ho : s2.ops = 2 := by rw [hs2, hs1]; rfl
    have hl : f1.length = (List.replicate 156 255).length := by rw [l1, List.length_replicate]
    refine ⟨s1, s2, _, _, s2.page 0 1, e0, by rw [hs1]; show 1 < 1000000; decide, fun h => (by cases h), fun _ => e1, by rw [ho]; decide, r1, r2, r3, by rw [hs2]; rfl, ho, r4, by show s2.ops < 1000000; rw [ho]; decide, r5, ?_, ?_, ?_, ?_⟩
    · rw [hp]
      refine ⟨by rw [part_len hl, List.length_replicate], fun i hi => ?_⟩
      rw [part_at hl (by rw [List.length_replicate]; exact hi), rep_at hi, if_neg (show ¬ (false = true) by decide)]
      by_cases hiy : i < y.toNat
      · rw [if_pos hiy, if_pos (by omega)]
      · rw [if_neg hiy, if_neg (by omega)]
    · show Chip.next _ 0 = if false = true ∧ fl = 255 then 0 else 2
      rw [if_neg (by simp), hs2, hs1]; rfl
    · rw [hs2, hs1]; rfl
    · rw [hs2, hs1]; rfl
set_option maxHeartbeats 8000000 in
set_option maxRecDepth 20000 in
theorem dark_true (x b fl : Int) (hf0 : 0 ≤ fl) (hf1 : fl ≤ 255) (y x1 : Int) (f0 f1 q : List Nat) (s0 s1 s2 s3 s4 : Chip) (w : World) (hy0 : 0 ≤ y) (hy1 : y < 157) (HY : Hid (lowM b 157 = y)) (HS0 : Hid (darkS y fl = s0)) (O0 : s0.ops < 1000000) (HX : IntKind.i64.wrap (x + 1) = x1) (HF0 : Hid (fillL x 156 = f0)) (HF1 : Hid (fillL x1 156 = f1))
    (H1 : Hid (s0.program 0 0 f0 = (s1, 0))) (O1 : s1.ops < 1000000) (H2 : Hid (s1.erase 0 = (s2, 4))) (O2 : s2.ops < 1000000) (H3 : Hid (s2.read 0 0 = (s2, 4, []))) (H4 : Hid (s2.erase 1 = (s2, 4))) (H5 : Hid (s2.mark 1 = (s2, 4))) (H6 : Hid (s2.on = false)) (H7 : Hid (s2.ops = 2)) (H8 : Hid (s2.boot = (s3, 0))) (O3 : s3.ops < 1000000)
    (H9 : Hid (s3.read 0 1 = (s4, 0, q))) (HQ : Hid (darkQ true y fl f1 q)) (H10 : Hid (s4.next 0 = darkN true fl)) (H11 : Hid (s4.wear 0 = 1)) (H12 : Hid (s4.misuse = 0)) :
    Calls Try.prog 4 #[.int .i64 x, .int .i64 b, .int .u8 fl, .bool true] w (SaysB w true) := by
  have HQL : Hid (q.length = 156) := HQ.out.1
  go_enter Try.func4, Try.ntmps4
  go_wp2_with fail
  refine (low_any b 157 (by omega) (by omega) _).mono ?_
  rw [HY.out]
  rintro e W0 ⟨rfl, hw0⟩
  subst hw0
  go_wp2_with fail
  have S0 := Lib.hid (since_alloc (Below.refl w.heap.size w) (.cells #[.int .i64 2, .int .i64 2, .int .i64 y, .int .u8 fl] 45))
  have M0 : Hid (mishK.Lie (w.alloc (.cells #[.int .i64 2, .int .i64 2, .int .i64 y, .int .u8 fl] 45)) (w.alloc (.cells #[.int .i64 2, .int .i64 2, .int .i64 y, .int .u8 fl] 45)).heap.size (some ⟨w.heap.size, 0, none⟩) 1 [⟨2, 2, y, fl⟩]) := Kind.new1 (K := mishK) w ⟨2, 2, y, fl⟩ ⟨by show _ ≤ (2 : Int); decide, by show (2 : Int) ≤ _; decide, by show _ ≤ (2 : Int); decide, by show (2 : Int) ≤ _; decide, by show _ ≤ y; omega, by show y ≤ _; omega, hf0, hf1⟩ _ rfl
  refine (new_yes 2 2 128 none 0 0 [] (some ⟨w.heap.size, 0, none⟩) 1 1 [⟨2, 2, y, fl⟩] _ (dark_may y fl hy0 hy1) Kind.Lie.none_ M0.out (by decide) (by decide)).mono ?_
  rw [show Chip.fresh 2 2 128 [] [⟨2, 2, y, fl⟩] = s0 from HS0.out]
  rintro e W0 ⟨g, fp0, rfl, hc0, hb0⟩
  have C0 := Lib.hid (hc0.elder S0.out.size)
  have S1 := Lib.hid (below_chain S0.out hb0)
  clear S0 M0 hc0 hb0
  go_wp2_with fail
  refine (fill_any x 156 _ (by omega)).mono ?_
  rintro e W2 ⟨A2, n2, c2, rfl, ho2, hb2⟩
  obtain rfl : 156 = n2 := by rw [← ho2.len, fillL_len]
  have F2 := Lib.hid (Rest.new ho2 C0.out.lt)
  have S2 := Lib.hid (below_chain S1.out hb2)
  have C2 := Lib.hid (C0.out.since hb2)
  clear hb2 ho2 S1 C0
  rw [HF0.out] at F2
  go_wp2_with fail
  refine (program_any 0 0 _ _ _ _ C2.out F2.out.own.bytes F2.out.own.cap F2.out.safe O0).mono ?_
  rw [H1.out]
  rintro e W3 ⟨v3, fp3, rfl, he3, hc3, hs3⟩
  have S3 := Lib.hid (hs3.below S2.out C2.out.ge S2.out.size)
  have F3 := Lib.hid (F2.out.step hs3)
  have C3 := Lib.hid hc3
  obtain rfl := he3.nil
  clear he3
  clear hc3 hs3 S2 F2 C2
  go_wp2_with fail
  refine (erase_any 0 C3.out O1).mono ?_
  rw [H2.out]
  rintro e W4 ⟨v4, fp4, rfl, he4, hc4, hs4⟩
  have S4 := Lib.hid (hs4.below S3.out C3.out.ge S3.out.size)
  have C4 := Lib.hid hc4
  have E4 := Lib.hid he4.at_
  clear he4
  clear hc4 hs4 S3 C3
  go_wp2_with fail
  refine (read_any 0 0 C4.out O2).mono ?_
  rw [H3.out]
  rintro e W5 ⟨v5, A5, n5, c5, fp5, rfl, he5, hr5, hc5, hs5⟩
  have S5 := Lib.hid (hs5.below S4.out C4.out.ge S4.out.size)
  have E5 := Lib.hid (E4.out.step hs5)
  have C5 := Lib.hid hc5
  have G5 := Lib.hid he5.at_
  clear he5
  clear hr5 hc5 hs5 S4 E4 C4
  go_wp2_with fail
  refine (err_num E5.out).mono ?_
  rintro e W6 ⟨rfl, hw6⟩
  subst hw6
  clear E5
  go_wp2_with fail
  refine (err_num G5.out).mono ?_
  rintro e W7 ⟨rfl, hw7⟩
  subst hw7
  clear G5
  go_wp2_with fail
  refine (erase_any 1 C5.out O2).mono ?_
  rw [H4.out]
  rintro e W8 ⟨v8, fp8, rfl, he8, hc8, hs8⟩
  have S8 := Lib.hid (hs8.below S5.out C5.out.ge S5.out.size)
  have C8 := Lib.hid hc8
  have E8 := Lib.hid he8.at_
  clear he8
  clear hc8 hs8 S5 C5
  go_wp2_with fail
  refine (err_num E8.out).mono ?_
  rintro e W9 ⟨rfl, hw9⟩
  subst hw9
  clear E8
  go_wp2_with fail
  refine (mark_any 1 C8.out O2).mono ?_
  rw [H5.out]
  rintro e W10 ⟨v10, fp10, rfl, he10, hc10, hs10⟩
  have S10 := Lib.hid (hs10.below S8.out C8.out.ge S8.out.size)
  have C10 := Lib.hid hc10
  have E10 := Lib.hid he10.at_
  clear he10
  clear hc10 hs10 S8 C8
  go_wp2_with fail
  refine (err_num E10.out).mono ?_
  rintro e W11 ⟨rfl, hw11⟩
  subst hw11
  clear E10
  go_wp2_with fail
  refine (on_any C10.out).mono ?_
  rw [H6.out]
  rintro e W12 ⟨rfl, hb12⟩
  have S12 := Lib.hid (below_chain S10.out hb12.out)
  have C12 := Lib.hid (C10.out.since hb12.out)
  clear hb12 S10 C10
  go_wp2_with fail
  refine (ops_any C12.out).mono ?_
  rw [H7.out]
  rintro e W13 ⟨rfl, hb13⟩
  have S13 := Lib.hid (below_chain S12.out hb13.out)
  have C13 := Lib.hid (C12.out.since hb13.out)
  clear hb13 S12 C12
  go_wp2_with fail
  refine (boot_any C13.out).mono ?_
  rw [H8.out]
  rintro e W14 ⟨v14, fp14, rfl, he14, hc14, hs14⟩
  have S14 := Lib.hid (hs14.below S13.out C13.out.ge S13.out.size)
  have C14 := Lib.hid hc14
  obtain rfl := he14.nil
  clear he14
  clear hc14 hs14 S13 C13
  go_wp2_with fail
  refine (read_any 0 1 C14.out O3).mono ?_
  rw [H9.out]
  rintro e W15 ⟨v15, A15, n15, c15, fp15, rfl, he15, hr15, hc15, hs15⟩
  have S15 := Lib.hid (hs15.below S14.out C14.out.ge S14.out.size)
  have C15 := Lib.hid hc15
  obtain rfl : 156 = n15 := by rw [← hr15.own.len, HQL.out]
  have R15 := Lib.hid hr15
  obtain rfl := he15.nil
  clear he15
  clear hr15 hc15 hs15 S14 C14
  go_wp2_with fail
  obtain ⟨fpL, HFP⟩ : ∃ fpL, fpL = fp15 := ⟨_, rfl⟩
  rw [← HFP] at R15 C15
  clear HFP
  go_loopw [15] (fun t15 wr => ∃ k : Nat, t15 = .int .i64 k ∧ k ≤ 156 ∧ Hid (ChipAt wr w.heap.size fpL g s4) ∧ Hid (Rest fpL wr W14.heap.size A15 156 c15 q) ∧ Hid (Below w.heap.size w wr)) (fun t15 _ => 156 - (intOf t15).toNat)
  case atStart => exact ⟨0, rfl, Nat.zero_le _, C15, R15, S15⟩
  clear C15 R15 S15
  case round =>
    obtain ⟨k, rfl, hk, HC, HR, HB⟩ := hrel
    by_cases hlt : k < 156
    · have i0 : (0 : Int) ≤ (k : Int) := by omega
      have i1 : (k : Int) < 156 := by omega
      obtain ⟨ad, rfl, hblk, hcell⟩ := HR.out.own.bytes.at_ hlt
      have HV := Lib.hid (HQ.out.2 k hlt)
      obtain ⟨z, HZ⟩ : ∃ z : Int, Hid (((q.getD k 0 : Nat) : Int) = z) := ⟨_, rfl⟩
      rw [HZ.out] at hcell
      obtain rfl : z = fl := by rw [← HZ.out, HV.out, if_pos rfl]; omega
      go_wp2_with fail
      go_roundw
      case rel => exact ⟨k + 1, by go_num, by omega, HC, HR, HB⟩
      case measure => simp [intOf]; omega
    · by_cases hfl : fl = 255
      · have hfb : (fl == 255) = true := by simpa using hfl
        have HN : Hid (s4.next 0 = 0) := by show _ = _; rw [H10.out]; unfold darkN; rw [if_pos ⟨rfl, hfl⟩]
        clear HR
        go_wp2_with fail
        refine (next_any 0 HC.out).mono ?_
        rw [HN.out]
        rintro e W51 ⟨rfl, hb51⟩
        have S51 := Lib.hid (below_chain HB.out hb51.out)
        have C51 := Lib.hid (HC.out.since hb51.out)
        clear hb51 HB HC
        go_wp2_with fail
        refine (wear_any 0 C51.out).mono ?_
        rw [H11.out]
        rintro e W52 ⟨rfl, hb52⟩
        have S52 := Lib.hid (below_chain S51.out hb52.out)
        have C52 := Lib.hid (C51.out.since hb52.out)
        clear hb52 S51 C51
        go_wp2_with fail
        refine (misuse_any C52.out).mono ?_
        rw [H12.out]
        rintro e W53 ⟨rfl, hb53⟩
        have S53 := Lib.hid (below_chain S52.out hb53.out)
        have C53 := Lib.hid (C52.out.since hb53.out)
        clear hb53 S52 C52
        go_wp2_with fail
        refine (awake_any _).mono ?_
        rintro e W54 ⟨rfl, hb54⟩
        have S54 := Lib.hid (below_chain S53.out hb54.out)
        go_wp2_with fail
        go_ret
        exact ⟨rfl, S54⟩
      · have hfb : (fl == 255) = false := by simpa using hfl
        have HN : Hid (s4.next 0 = 2) := by show _ = _; rw [H10.out]; unfold darkN; rw [if_neg (by simp; exact hfl)]
        clear HR
        go_wp2_with fail
        refine (next_any 0 HC.out).mono ?_
        rw [HN.out]
        rintro e W51 ⟨rfl, hb51⟩
        have S51 := Lib.hid (below_chain HB.out hb51.out)
        have C51 := Lib.hid (HC.out.since hb51.out)
        clear hb51 HB HC
        go_wp2_with fail
        refine (wear_any 0 C51.out).mono ?_
        rw [H11.out]
        rintro e W52 ⟨rfl, hb52⟩
        have S52 := Lib.hid (below_chain S51.out hb52.out)
        have C52 := Lib.hid (C51.out.since hb52.out)
        clear hb52 S51 C51
        go_wp2_with fail
        refine (misuse_any C52.out).mono ?_
        rw [H12.out]
        rintro e W53 ⟨rfl, hb53⟩
        have S53 := Lib.hid (below_chain S52.out hb53.out)
        have C53 := Lib.hid (C52.out.since hb53.out)
        clear hb53 S52 C52
        go_wp2_with fail
        refine (awake_any _).mono ?_
        rintro e W54 ⟨rfl, hb54⟩
        have S54 := Lib.hid (below_chain S53.out hb54.out)
        go_wp2_with fail
        go_ret
        exact ⟨rfl, S54⟩
set_option maxHeartbeats 8000000 in
set_option maxRecDepth 20000 in
theorem dark_false (x b fl : Int) (hf0 : 0 ≤ fl) (hf1 : fl ≤ 255) (y x1 : Int) (f0 f1 q : List Nat) (s0 s1 s2 s3 s4 : Chip) (w : World) (hy0 : 0 ≤ y) (hy1 : y < 157) (HY : Hid (lowM b 157 = y)) (HS0 : Hid (darkS y fl = s0)) (O0 : s0.ops < 1000000) (HX : IntKind.i64.wrap (x + 1) = x1) (HF0 : Hid (fillL x 156 = f0)) (HF1 : Hid (fillL x1 156 = f1))
    (H1 : Hid (s0.program 0 0 f0 = (s1, 0))) (O1 : s1.ops < 1000000) (H2 : Hid (s1.program 0 1 f1 = (s2, 4))) (O2 : s2.ops < 1000000) (H3 : Hid (s2.read 0 0 = (s2, 4, []))) (H4 : Hid (s2.erase 1 = (s2, 4))) (H5 : Hid (s2.mark 1 = (s2, 4))) (H6 : Hid (s2.on = false)) (H7 : Hid (s2.ops = 2)) (H8 : Hid (s2.boot = (s3, 0))) (O3 : s3.ops < 1000000)
    (H9 : Hid (s3.read 0 1 = (s4, 0, q))) (HQ : Hid (darkQ false y fl f1 q)) (H10 : Hid (s4.next 0 = darkN false fl)) (H11 : Hid (s4.wear 0 = 0)) (H12 : Hid (s4.misuse = 0)) :
    Calls Try.prog 4 #[.int .i64 x, .int .i64 b, .int .u8 fl, .bool false] w (SaysB w true) := by
  have HQL : Hid (q.length = 156) := HQ.out.1
  go_enter Try.func4, Try.ntmps4
  go_wp2_with fail
  refine (low_any b 157 (by omega) (by omega) _).mono ?_
  rw [HY.out]
  rintro e W0 ⟨rfl, hw0⟩
  subst hw0
  go_wp2_with fail
  have S0 := Lib.hid (since_alloc (Below.refl w.heap.size w) (.cells #[.int .i64 2, .int .i64 2, .int .i64 y, .int .u8 fl] 45))
  have M0 : Hid (mishK.Lie (w.alloc (.cells #[.int .i64 2, .int .i64 2, .int .i64 y, .int .u8 fl] 45)) (w.alloc (.cells #[.int .i64 2, .int .i64 2, .int .i64 y, .int .u8 fl] 45)).heap.size (some ⟨w.heap.size, 0, none⟩) 1 [⟨2, 2, y, fl⟩]) := Kind.new1 (K := mishK) w ⟨2, 2, y, fl⟩ ⟨by show _ ≤ (2 : Int); decide, by show (2 : Int) ≤ _; decide, by show _ ≤ (2 : Int); decide, by show (2 : Int) ≤ _; decide, by show _ ≤ y; omega, by show y ≤ _; omega, hf0, hf1⟩ _ rfl
  refine (new_yes 2 2 128 none 0 0 [] (some ⟨w.heap.size, 0, none⟩) 1 1 [⟨2, 2, y, fl⟩] _ (dark_may y fl hy0 hy1) Kind.Lie.none_ M0.out (by decide) (by decide)).mono ?_
  rw [show Chip.fresh 2 2 128 [] [⟨2, 2, y, fl⟩] = s0 from HS0.out]
  rintro e W0 ⟨g, fp0, rfl, hc0, hb0⟩
  have C0 := Lib.hid (hc0.elder S0.out.size)
  have S1 := Lib.hid (below_chain S0.out hb0)
  clear S0 M0 hc0 hb0
  go_wp2_with fail
  refine (fill_any x 156 _ (by omega)).mono ?_
  rintro e W2 ⟨A2, n2, c2, rfl, ho2, hb2⟩
  obtain rfl : 156 = n2 := by rw [← ho2.len, fillL_len]
  have F2 := Lib.hid (Rest.new ho2 C0.out.lt)
  have S2 := Lib.hid (below_chain S1.out hb2)
  have C2 := Lib.hid (C0.out.since hb2)
  clear hb2 ho2 S1 C0
  rw [HF0.out] at F2
  go_wp2_with fail
  refine (program_any 0 0 _ _ _ _ C2.out F2.out.own.bytes F2.out.own.cap F2.out.safe O0).mono ?_
  rw [H1.out]
  rintro e W3 ⟨v3, fp3, rfl, he3, hc3, hs3⟩
  have S3 := Lib.hid (hs3.below S2.out C2.out.ge S2.out.size)
  have F3 := Lib.hid (F2.out.step hs3)
  have C3 := Lib.hid hc3
  obtain rfl := he3.nil
  clear he3
  clear hc3 hs3 S2 F2 C2
  go_wp2_with fail
  refine (fill_any x1 156 _ (by omega)).mono ?_
  rintro e W4 ⟨A4, n4, c4, rfl, ho4, hb4⟩
  obtain rfl : 156 = n4 := by rw [← ho4.len, fillL_len]
  have F4 := Lib.hid (Rest.new ho4 C3.out.lt)
  have S4 := Lib.hid (below_chain S3.out hb4)
  have C4 := Lib.hid (C3.out.since hb4)
  clear hb4 ho4 S3 C3
  rw [HF1.out] at F4
  go_wp2_with fail
  refine (program_any 0 1 _ _ _ _ C4.out F4.out.own.bytes F4.out.own.cap F4.out.safe O1).mono ?_
  rw [H2.out]
  rintro e W5 ⟨v5, fp5, rfl, he5, hc5, hs5⟩
  have S5 := Lib.hid (hs5.below S4.out C4.out.ge S4.out.size)
  have F5 := Lib.hid (F4.out.step hs5)
  have C5 := Lib.hid hc5
  have E5 := Lib.hid he5.at_
  clear he5
  clear hc5 hs5 S4 F4 C4
  go_wp2_with fail
  refine (read_any 0 0 C5.out O2).mono ?_
  rw [H3.out]
  rintro e W6 ⟨v6, A6, n6, c6, fp6, rfl, he6, hr6, hc6, hs6⟩
  have S6 := Lib.hid (hs6.below S5.out C5.out.ge S5.out.size)
  have E6 := Lib.hid (E5.out.step hs6)
  have C6 := Lib.hid hc6
  have G6 := Lib.hid he6.at_
  clear he6
  clear hr6 hc6 hs6 S5 E5 C5
  go_wp2_with fail
  refine (err_num E6.out).mono ?_
  rintro e W7 ⟨rfl, hw7⟩
  subst hw7
  clear E6
  go_wp2_with fail
  refine (err_num G6.out).mono ?_
  rintro e W8 ⟨rfl, hw8⟩
  subst hw8
  clear G6
  go_wp2_with fail
  refine (erase_any 1 C6.out O2).mono ?_
  rw [H4.out]
  rintro e W9 ⟨v9, fp9, rfl, he9, hc9, hs9⟩
  have S9 := Lib.hid (hs9.below S6.out C6.out.ge S6.out.size)
  have C9 := Lib.hid hc9
  have E9 := Lib.hid he9.at_
  clear he9
  clear hc9 hs9 S6 C6
  go_wp2_with fail
  refine (err_num E9.out).mono ?_
  rintro e W10 ⟨rfl, hw10⟩
  subst hw10
  clear E9
  go_wp2_with fail
  refine (mark_any 1 C9.out O2).mono ?_
  rw [H5.out]
  rintro e W11 ⟨v11, fp11, rfl, he11, hc11, hs11⟩
  have S11 := Lib.hid (hs11.below S9.out C9.out.ge S9.out.size)
  have C11 := Lib.hid hc11
  have E11 := Lib.hid he11.at_
  clear he11
  clear hc11 hs11 S9 C9
  go_wp2_with fail
  refine (err_num E11.out).mono ?_
  rintro e W12 ⟨rfl, hw12⟩
  subst hw12
  clear E11
  go_wp2_with fail
  refine (on_any C11.out).mono ?_
  rw [H6.out]
  rintro e W13 ⟨rfl, hb13⟩
  have S13 := Lib.hid (below_chain S11.out hb13.out)
  have C13 := Lib.hid (C11.out.since hb13.out)
  clear hb13 S11 C11
  go_wp2_with fail
  refine (ops_any C13.out).mono ?_
  rw [H7.out]
  rintro e W14 ⟨rfl, hb14⟩
  have S14 := Lib.hid (below_chain S13.out hb14.out)
  have C14 := Lib.hid (C13.out.since hb14.out)
  clear hb14 S13 C13
  go_wp2_with fail
  refine (boot_any C14.out).mono ?_
  rw [H8.out]
  rintro e W15 ⟨v15, fp15, rfl, he15, hc15, hs15⟩
  have S15 := Lib.hid (hs15.below S14.out C14.out.ge S14.out.size)
  have C15 := Lib.hid hc15
  obtain rfl := he15.nil
  clear he15
  clear hc15 hs15 S14 C14
  go_wp2_with fail
  refine (read_any 0 1 C15.out O3).mono ?_
  rw [H9.out]
  rintro e W16 ⟨v16, A16, n16, c16, fp16, rfl, he16, hr16, hc16, hs16⟩
  have S16 := Lib.hid (hs16.below S15.out C15.out.ge S15.out.size)
  have C16 := Lib.hid hc16
  obtain rfl : 156 = n16 := by rw [← hr16.own.len, HQL.out]
  have R16 := Lib.hid hr16
  obtain rfl := he16.nil
  clear he16
  clear hr16 hc16 hs16 S15 C15
  go_wp2_with fail
  obtain ⟨fpL, HFP⟩ : ∃ fpL, fpL = fp16 := ⟨_, rfl⟩
  rw [← HFP] at R16 C16
  clear HFP
  go_loopw [15] (fun t15 wr => ∃ k : Nat, t15 = .int .i64 k ∧ k ≤ 156 ∧ Hid (ChipAt wr w.heap.size fpL g s4) ∧ Hid (Rest fpL wr W15.heap.size A16 156 c16 q) ∧ Hid (Below w.heap.size w wr)) (fun t15 _ => 156 - (intOf t15).toNat)
  case atStart => exact ⟨0, rfl, Nat.zero_le _, C16, R16, S16⟩
  clear C16 R16 S16
  case round =>
    obtain ⟨k, rfl, hk, HC, HR, HB⟩ := hrel
    by_cases hlt : k < 156
    · have i0 : (0 : Int) ≤ (k : Int) := by omega
      have i1 : (k : Int) < 156 := by omega
      obtain ⟨ad, rfl, hblk, hcell⟩ := HR.out.own.bytes.at_ hlt
      have HV := Lib.hid (HQ.out.2 k hlt)
      obtain ⟨z, HZ⟩ : ∃ z : Int, Hid (((q.getD k 0 : Nat) : Int) = z) := ⟨_, rfl⟩
      rw [HZ.out] at hcell
      by_cases hky : (k : Int) < y
      · have HV2 : Hid (z = ((f1.getD k 0 : Nat) : Int)) := by show _ = _; rw [← HZ.out, HV.out, if_neg (by decide), if_pos hky]
        clear HV
        go_wp2_with fail
        refine (fill_any x1 156 _ (by omega)).mono ?_
        rw [HF1.out]
        rintro e V ⟨A9, n9, c9, rfl, ho, hb⟩
        have HB2 := Lib.hid (below_chain HB.out hb)
        have HC2 := Lib.hid (HC.out.since hb)
        have HR2 := Lib.hid (HR.out.since hb)
        have hn9 : 156 = n9 := by rw [← ho.len, ← HF1.out, fillL_len]
        subst hn9
        obtain ⟨ad9, rfl, _, hcell9⟩ := ho.bytes.at_ hlt
        rw [← HV2.out] at hcell9
        replace hcell := (hb.cell (p := ad.add k) (by rw [addr_block]; exact hblk)).trans hcell
        clear ho hb HC HR HB
        go_wp2_with fail
        go_roundw
        case rel => exact ⟨k + 1, by go_num, by omega, HC2, HR2, HB2⟩
        case measure => simp [intOf]; omega
      · obtain rfl : z = 255 := by rw [← HZ.out, HV.out, if_neg (by decide), if_neg hky]; rfl
        go_wp2_with fail
        go_roundw
        case rel => exact ⟨k + 1, by go_num, by omega, HC, HR, HB⟩
        case measure => simp [intOf]; omega
    · skip
      have HN : Hid (s4.next 0 = 2) := by show _ = _; rw [H10.out]; unfold darkN; rw [if_neg (by simp)]
      clear HR
      go_wp2_with fail
      refine (next_any 0 HC.out).mono ?_
      rw [HN.out]
      rintro e W51 ⟨rfl, hb51⟩
      have S51 := Lib.hid (below_chain HB.out hb51.out)
      have C51 := Lib.hid (HC.out.since hb51.out)
      clear hb51 HB HC
      go_wp2_with fail
      refine (wear_any 0 C51.out).mono ?_
      rw [H11.out]
      rintro e W52 ⟨rfl, hb52⟩
      have S52 := Lib.hid (below_chain S51.out hb52.out)
      have C52 := Lib.hid (C51.out.since hb52.out)
      clear hb52 S51 C51
      go_wp2_with fail
      refine (misuse_any C52.out).mono ?_
      rw [H12.out]
      rintro e W53 ⟨rfl, hb53⟩
      have S53 := Lib.hid (below_chain S52.out hb53.out)
      have C53 := Lib.hid (C52.out.since hb53.out)
      clear hb53 S52 C52
      go_wp2_with fail
      refine (awake_any _).mono ?_
      rintro e W54 ⟨rfl, hb54⟩
      have S54 := Lib.hid (below_chain S53.out hb54.out)
      go_wp2_with fail
      go_ret
      exact ⟨rfl, S54⟩
theorem dark_law (x b fl : Int) (er : Bool) (hf0 : 0 ≤ fl) (hf1 : fl ≤ 255) (w : World) : Calls Try.prog 4 #[.int .i64 x, .int .i64 b, .int .u8 fl, .bool er] w (SaysB w true) := by
  obtain ⟨hy0, hy1⟩ := lowM_bd b 157 (by omega)
  obtain ⟨s1, s2, s3, s4, q, h1, o1, h2, h2', o2, h3, h4, h5, h6, h7, h8, o3, h9, hq, h10, h11, h12⟩ := dark_math er (lowM b 157) fl hy0 hf0 (fillL x 156) (fillL (IntKind.i64.wrap (x + 1)) 156) (fillL_len _ _) (fillL_len _ _)
  cases er with
  | true => exact dark_true x b fl hf0 hf1 _ _ _ _ q _ s1 s2 s3 s4 w hy0 hy1 rfl rfl (by show 0 < 1000000; decide) rfl rfl rfl h1 o1 (h2 rfl) o2 h3 h4 h5 h6 h7 h8 o3 h9 hq h10 h11 h12
  | false => exact dark_false x b fl hf0 hf1 _ _ _ _ q _ s1 s2 s3 s4 w hy0 hy1 rfl rfl (by show 0 < 1000000; decide) rfl rfl rfl h1 o1 (h2' rfl) o2 h3 h4 h5 h6 h7 h8 o3 h9 hq h10 h11 h12
end Go.Proofs.Ytgamjffedlkbeaa
