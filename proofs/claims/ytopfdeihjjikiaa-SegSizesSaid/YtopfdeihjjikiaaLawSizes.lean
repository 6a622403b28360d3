/- SegSizes answers true, for all numbers. No conditions. -/
import Derived.Test.YtopfdeihjjikiaaSegAwake
set_option linter.unusedVariables false
set_option linter.unusedSimpArgs false
namespace Go.Proofs.Ytopfdeihjjikiaa
open Go.RowKit

/-- The i-th of the statement's entries. -/
def sizesE (i : Nat) : Sg.E := ⟨i * 1048576, 255 - i % 256, i % 3 == 0, 1 + i⟩
def sizesL (m : Nat) : List Sg.E := (List.range m).map sizesE
theorem sizesL_len (m : Nat) : (sizesL m).length = m := by simp [sizesL]
theorem sizesL_next (k : Nat) : sizesL (k + 1) = sizesL k ++ [sizesE k] := by unfold sizesL; rw [List.range_succ, List.map_append]; rfl
theorem sizesE_ok {k : Nat} (h : k < 256) : Sg.OkE (sizesE k) := ⟨by show k * 1048576 < _; omega, by show 1 ≤ 1 + k; omega, by show 1 + k ≤ _; omega, by show 255 - k % 256 ≤ _; omega⟩
theorem sizesL_ok {m : Nat} (h : m ≤ 256) : Sg.Ok (sizesL m) := by
  refine ⟨fun e he => ?_, ?_, ?_, by rw [sizesL_len]; exact h⟩
  · obtain ⟨k, hk, rfl⟩ := List.mem_map.1 he
    exact sizesE_ok (by have := List.mem_range.1 hk; omega)
  · unfold sizesL
    rw [List.pairwise_map, List.pairwise_iff_getElem]
    intro i j hi hj hij
    simp only [List.getElem_range]
    show i * 1048576 < j * 1048576
    omega
  · unfold sizesL
    rw [List.map_map, List.Nodup, List.pairwise_map, List.pairwise_iff_getElem]
    intro i j hi hj hij
    simp only [List.getElem_range]
    rw [List.length_range] at hi hj
    show 255 - i % 256 ≠ 255 - j % 256
    omega
theorem okN_x : OkN [120] := ⟨by decide, by decide +kernel⟩
theorem str_x : strOf [120] = ⟨#[120]⟩ := rfl
set_option maxHeartbeats 8000000 in
set_option maxRecDepth 20000 in
theorem sizes_law (x y : Int) (w : World) : Calls Try.prog 5 #[.int .i64 x, .int .i64 y] w (SaysB w true) := by
  obtain ⟨q, hq, HQ⟩ : ∃ q : Nat, q < 129 ∧ Hid (lowM x 129 = (q : Int)) := ⟨(lowM x 129).toNat, by have := lowM_bd x 129 (by omega); omega, by have := lowM_bd x 129 (by omega); show _ = _; omega⟩
  obtain ⟨m, hm, HM⟩ : ∃ m : Nat, m < 257 ∧ Hid (lowM y 257 = (m : Int)) := ⟨(lowM y 257).toNat, by have := lowM_bd y 257 (by omega); omega, by have := lowM_bd y 257 (by omega); show _ = _; omega⟩
  obtain ⟨s, HS⟩ : ∃ s : Nat, Hid (s = 128 + q) := ⟨_, rfl⟩
  have hs : Sg.sizeOk s := by rw [HS.out]; exact ⟨by omega, by omega⟩
  have HSZ := Lib.hid hs
  have HSI : Hid ((128 : Int) + (q : Int) = (s : Int)) := by show _ = _; rw [HS.out]; omega
  obtain ⟨ea, HEA⟩ : ∃ ea, Hid (Sg.each s = ea) := ⟨_, rfl⟩
  obtain ⟨pa, HPA⟩ : ∃ pa, Hid (Sg.parts s m = pa) := ⟨_, rfl⟩
  obtain ⟨hea0, hea1, _⟩ := Sg.each_bd hs
  rw [HEA.out] at hea0 hea1
  obtain ⟨hp0, hp1, hp2⟩ := Sg.parts_bd (n := m) hs
  have hp3 := Sg.parts_few hs (show m ≤ 256 by omega)
  rw [HPA.out] at hp0 hp1 hp2 hp3
  rw [HEA.out] at hp1 hp2
  clear hs
  go_enter Try.func5, Try.ntmps5
  go_wp2_with fail
  refine (low_any x 129 (by omega) (by omega) _).mono ?_
  rw [HQ.out]
  rintro e w' ⟨rfl, rfl⟩
  go_wp2_with fail
  refine (low_any y 257 (by omega) (by omega) _).mono ?_
  rw [HM.out]
  rintro e w' ⟨rfl, rfl⟩
  go_wp2_with fail
  rw [HSI.out]
  refine (each_any (s : Int) _).mono ?_
  rw [eachI_nat HSZ.out, HEA.out]
  rintro e w' ⟨rfl, rfl⟩
  go_wp2_with fail
  refine (parts_any (s : Int) (m : Int) _ (by omega)).mono ?_
  rw [partsI_nat HSZ.out, HPA.out]
  rintro e w' ⟨rfl, rfl⟩
  go_wp2_with fail
  go_loopw [7, 8] (fun t7 t8 wr => ∃ (k : Nat) (A3 : Option Addr) (c3 : Nat), t8 = .int .i64 k ∧ k ≤ m ∧ t7 = .slice A3 k c3 ∧ Hid (entK.Row wr w.heap.size A3 k c3 ((sizesL k).map ofE)) ∧ Hid (Below w.heap.size w wr)) (fun _ t8 _ => m - (intOf t8).toNat)
  case atStart => exact ⟨0, none, 0, rfl, Nat.zero_le _, rfl, Kind.Row.none_, Below.refl _ _⟩
  case round =>
    obtain ⟨k, A3, c3, rfl, hk, rfl, HO, HB⟩ := hrel
    by_cases hlt : k < m
    · have i0 : (0 : Int) ≤ (k : Int) := by omega
      have i1 : (k : Int) < (m : Int) := by omega
      have hcs : (#[.int .u64 ((k : Int) * 1048576), .int .i64 (255 - (k : Int) % 256), .bool ((k : Int) % 3 == 0), .int .i64 (1 + (k : Int))] : Array Value) = (entK.cv (ofE (sizesE k))).toArray := by
        show _ = #[Value.int .u64 (((k * 1048576 : Nat)) : Int), .int .i64 (((255 - k % 256 : Nat)) : Int), .bool (k % 3 == 0), .int .i64 (((1 + k : Nat)) : Int)]
        have e1 : (((k * 1048576 : Nat)) : Int) = (k : Int) * 1048576 := by simp
        have e2 : (((255 - k % 256 : Nat)) : Int) = 255 - (k : Int) % 256 := by omega
        have e3 : (((1 + k : Nat)) : Int) = 1 + (k : Int) := by simp
        have e4 : (k % 3 == 0) = ((k : Int) % 3 == 0) := by rw [Bool.eq_iff_iff]; simp; omega
        rw [e1, e2, e3, e4]
      obtain ⟨A4, c4, W4, hr, ho, hb, _⟩ := Kind.append_one HB.out HO.out (ofE (sizesE k)) (ofE_wf (sizesE_ok (by omega))) _ hcs (by omega)
      have R := Lib.hid hr
      have O4 : Hid (entK.Row W4 w.heap.size A4 (k + 1) c4 ((sizesL (k + 1)).map ofE)) := by rw [sizesL_next, List.map_append]; exact ho
      have S4 := Lib.hid hb
      clear hr ho hb hcs
      go_wp2_with (at_builtin; refine wpList_append_run rfl (.tmp 27) (.tmp 40) 22 rfl rfl rfl R.out ?_)
      go_roundw
      case rel => exact ⟨k + 1, A4, c4, by go_num, by omega, rfl, O4, S4⟩
      case measure => simp [intOf]; omega
    · obtain rfl : k = m := by omega
      obtain ⟨ps, HPS⟩ : ∃ ps, Hid (Sg.cut s [120] (sizesL k) = ps) := ⟨_, rfl⟩
      have HPL : Hid (ps.length = pa) := by rw [← HPS.out, Sg.cut_len, sizesL_len]; exact HPA.out
      have HOK : Hid (Sg.Ok (sizesL k)) := sizesL_ok (by omega)
      have HC := Lib.hid (cut_yes s [120] A3 k c3 (sizesL k) wr HSZ.out okN_x HOK.out HO.out.cap HO.out.lie)
      rw [HPS.out, str_x] at HC
      go_wp2_with fail
      refine HC.out.mono ?_
      rintro e W1 ⟨g, B, C, rfl, R1, hb1⟩
      have S1 := Lib.hid (below_chain HB.out hb1.out)
      have O1 := Lib.hid (HO.out.since hb1.out)
      have R1 := Lib.hid R1.out
      rw [HPL.out] at R1 ⊢
      clear hb1 HC HO HB
      go_wp2_with fail
      refine (segmay_any A3 k c3 _ _ (by omega) O1.out.lie).mono ?_
      rw [ok_mayE HOK.out]
      rintro e W2 ⟨rfl, hb2⟩
      have S2 := Lib.hid (below_chain S1.out hb2.out)
      have R2 := Lib.hid (R1.out.since hb2.out)
      clear hb2 S1 R1 O1
      go_wp2_with fail
      go_loop [11] (fun t11 => ∃ j : Nat, t11 = .int .i64 j ∧ j ≤ pa) (fun t11 => pa - (intOf t11).toNat)
      case atStart => exact ⟨0, rfl, Nat.zero_le _⟩
      case round =>
        obtain ⟨j, rfl, hj⟩ := hrel
        by_cases hlt2 : j < pa
        · have hcell := R2.out.cell hlt2
          have i0 : (0 : Int) ≤ (j : Int) := by omega
          have i1 : (j : Int) < (pa : Int) := by omega
          go_wp2_with fail
          go_round
          case rel => exact ⟨j + 1, by go_num, by omega⟩
          case measure => simp [intOf]; omega
        · have e1 : (pa : Int) * (ea : Int) = ((pa * ea : Nat) : Int) := by simp
          have e2 : ((pa : Int) - 1) * (ea : Int) = (((pa - 1) * ea : Nat) : Int) := by
            rw [show ((pa : Int) - 1) = ((pa - 1 : Nat) : Int) by omega]; simp
          have b1 : pa * ea ≤ 257 * 14 := Nat.mul_le_mul hp3 hea1
          have b2 : (pa - 1) * ea ≤ 257 * 14 := Nat.mul_le_mul (by omega) hea1
          have g0 : 0 ≤ (pa : Int) * (ea : Int) := by omega
          have g1 : (pa : Int) * (ea : Int) ≤ 10000 := by omega
          have g2 : (k : Int) ≤ (pa : Int) * (ea : Int) := by omega
          have g3 : 0 ≤ ((pa : Int) - 1) * (ea : Int) := by omega
          have g4 : ((pa : Int) - 1) * (ea : Int) ≤ 10000 := by omega
          have g5 : (5 : Int) ≤ (ea : Int) := by omega
          have g6 : (1 : Int) ≤ (pa : Int) := by omega
          by_cases hk0 : k = 0
          · have b0 : ((k : Int) == 0) = true := by simp [hk0]
            clear e1 e2 b1 b2 hp2
            go_wp2_with fail
            refine (awake_any _).mono ?_
            rintro e W9 ⟨rfl, hb9⟩
            have S9 := Lib.hid (below_chain S2.out hb9.out)
            go_wp2_with fail
            go_ret
            exact ⟨rfl, S9⟩
          · have b0 : ((k : Int) == 0) = false := by simp [hk0]
            have g7 : ((pa : Int) - 1) * (ea : Int) < (k : Int) := by
              rcases hp2 with h | h
              · exact absurd h hk0
              · omega
            clear e1 e2 b1 b2 hp2
            go_wp2_with fail
            refine (awake_any _).mono ?_
            rintro e W9 ⟨rfl, hb9⟩
            have S9 := Lib.hid (below_chain S2.out hb9.out)
            go_wp2_with fail
            go_ret
            exact ⟨rfl, S9⟩
end Go.Proofs.Ytopfdeihjjikiaa
