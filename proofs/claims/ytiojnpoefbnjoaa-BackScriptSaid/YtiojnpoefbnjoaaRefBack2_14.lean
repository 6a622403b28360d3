/- The document's own back: Pages, Range. Conditions: its cells. -/
import Derived.Test.YtiojnpoefbnjoaaRefBack14
set_option linter.unusedVariables false
set_option linter.unusedSimpArgs false
namespace Go.Proofs.Ytiojnpoefbnjoaa
open Go.RowKit

def rangeN (s : Bk) (lo hi : Int) (k : Nat) : List Int := (List.range k).filterMap fun (j : Nat) => if lo ≤ (j : Int) ∧ (j : Int) < hi then s.getD j none else none
section
variable {s : Bk} {lo hi a : Int} {k : Nat}
theorem rangeN_none (h : (if lo ≤ (k : Int) ∧ (k : Int) < hi then s.getD k none else none) = none) : rangeN s lo hi (k + 1) = rangeN s lo hi k := by
  unfold rangeN
  rw [List.range_succ, List.filterMap_append, List.filterMap_cons, h]
  simp
theorem rangeN_some (h : (if lo ≤ (k : Int) ∧ (k : Int) < hi then s.getD k none else none) = some a) : rangeN s lo hi (k + 1) = rangeN s lo hi k ++ [a] := by
  unfold rangeN
  rw [List.range_succ, List.filterMap_append, List.filterMap_cons, h]
  simp
theorem rangeN_all : rangeBk s lo hi = rangeN s lo hi s.length := rfl
end
section
variable {w : World} {base g gh ga : Nat} {s : Bk}
set_option maxHeartbeats 8000000 in
theorem refbpages_any (h : RBack w base g gh ga s) : Calls Try.prog 18 #[.pointer (some ⟨g, 0, none⟩)] w (GivesI w (pagesBk s)) := by
  have HR := Lib.hid h
  have hn2 := h.wf.n2
  obtain ⟨n, HN⟩ : ∃ n, Hid (s.length = n) := ⟨_, rfl⟩
  rw [HN.out] at hn2
  clear h
  have S0 : Hid (Below w.heap.size w w) := Below.refl _ _
  go_enter Try.func18, Try.ntmps18
  go_wp2_with fail
  go_loopw [3, 4] (fun t3 t4 wr => ∃ (k j : Nat) (A : Option Addr) (c : Nat), t3 = .slice A j c ∧ t4 = .int .i64 k ∧ k ≤ n ∧ j ≤ k ∧ Hid (intK.Row wr w.heap.size A j c (pagesN s k)) ∧ Hid (Below w.heap.size w wr)) (fun _ t4 _ => n - (intOf t4).toNat)
  case atStart => exact ⟨0, 0, none, 0, rfl, rfl, Nat.zero_le _, Nat.le_refl _, Kind.Row.none_, S0⟩
  clear S0
  case round =>
    obtain ⟨Wa, rfl⟩ : ∃ Wa, Wa = wr := ⟨_, rfl⟩
    obtain ⟨k, j, A, c, rfl, rfl, hk, hj, HP, HB⟩ := hrel
    have k0 : (0 : Int) ≤ (k : Int) := by omega
    have RA := Lib.hid (HR.out.since HB.out)
    have c0 := RA.out.c0
    rw [HN.out] at c0
    by_cases hlt : k < n
    · have k1 : (k : Int) < (n : Int) := by omega
      have g6 := RA.out.hAt (k := k) (by rw [HN.out]; exact hlt)
      cases HO : s.getD k none with
      | none =>
        rw [HO] at g6
        have g6' : Wa.cell? ⟨gh, k, none⟩ = some (.bool false) := g6
        rw [← pagesN_none HO] at HP
        clear g6
        go_wp2_with fail
        go_roundw
        case rel => exact ⟨k + 1, j, A, c, rfl, by go_num, by omega, by omega, HP, HB⟩
        case measure => simp [intOf]; omega
      | some o =>
        rw [HO] at g6
        have g6' : Wa.cell? ⟨gh, k, none⟩ = some (.bool true) := g6
        have HPN := Lib.hid (pagesN_some HO)
        clear g6
        obtain ⟨A8, c8, W8, hr8, ho8, hg8⟩ := Kind.append_one_b (K := intK) HB.out.size HP.out (k : Int) ⟨by omega, by omega⟩ #[.int .i64 (k : Int)] rfl (by omega)
        have R8 := Lib.hid hr8
        have P8 : Hid (intK.Row W8 w.heap.size A8 (j + 1) c8 (pagesN s (k + 1))) := by rw [HPN.out]; exact ho8
        have B8 := Lib.hid (HB.out.grown hg8 HB.out.size (fun b hb => (HP.out.row.lt b hb).1))
        clear hr8 ho8 hg8 HP HB HPN HO
        go_wp2_with (at_builtin; refine wpList_append_run rfl (.tmp 21) (.tmp 23) 44 rfl rfl rfl R8.out ?_)
        go_roundw
        case rel => exact ⟨k + 1, j + 1, A8, c8, rfl, by go_num, by omega, by omega, P8, B8⟩
        case measure => simp [intOf]; omega
    · obtain rfl : k = n := by omega
      rw [← pagesN_all HN.out] at HP
      go_wp2_with fail
      go_ret
      exact ⟨A, j, c, rfl, HP, HB⟩
set_option maxHeartbeats 8000000 in
theorem refbrange_any (lo hi : Int) (h : RBack w base g gh ga s) : Calls Try.prog 20 #[.pointer (some ⟨g, 0, none⟩), .int .i64 lo, .int .i64 hi] w (GivesW w (rangeBk s lo hi)) := by
  have HR := Lib.hid h
  have hn2 := h.wf.n2
  obtain ⟨n, HN⟩ : ∃ n, Hid (s.length = n) := ⟨_, rfl⟩
  rw [HN.out] at hn2
  clear h
  have S0 : Hid (Below w.heap.size w w) := Below.refl _ _
  go_enter Try.func20, Try.ntmps20
  go_wp2_with fail
  go_loopw [7, 8] (fun t7 t8 wr => ∃ (k j : Nat) (A : Option Addr) (c : Nat), t7 = .slice A j c ∧ t8 = .int .i64 k ∧ k ≤ n ∧ j ≤ k ∧ Hid (wordK.Row wr w.heap.size A j c (rangeN s lo hi k)) ∧ Hid (Below w.heap.size w wr)) (fun _ t8 _ => n - (intOf t8).toNat)
  case atStart => exact ⟨0, 0, none, 0, rfl, rfl, Nat.zero_le _, Nat.le_refl _, Kind.Row.none_, S0⟩
  clear S0
  case round =>
    obtain ⟨Wa, rfl⟩ : ∃ Wa, Wa = wr := ⟨_, rfl⟩
    obtain ⟨k, j, A, c, rfl, rfl, hk, hj, HP, HB⟩ := hrel
    have k0 : (0 : Int) ≤ (k : Int) := by omega
    have RA := Lib.hid (HR.out.since HB.out)
    have c0 := RA.out.c0
    rw [HN.out] at c0
    by_cases hlt : k < n
    · have k1 : (k : Int) < (n : Int) := by omega
      have g6 := RA.out.hAt (k := k) (by rw [HN.out]; exact hlt)
      by_cases hlo : lo ≤ (k : Int)
      · by_cases hhi : (k : Int) < hi
        · cases HO : s.getD k none with
          | none =>
            rw [HO] at g6
            have g6' : Wa.cell? ⟨gh, k, none⟩ = some (.bool false) := g6
            clear g6
            have HE : (if lo ≤ (k : Int) ∧ (k : Int) < hi then s.getD k none else none) = none := by rw [if_pos ⟨hlo, hhi⟩]; exact HO
            rw [← rangeN_none HE] at HP
            clear HE
            go_wp2_with fail
            go_roundw
            case rel => exact ⟨k + 1, j, A, c, rfl, by go_num, by omega, by omega, HP, HB⟩
            case measure => simp [intOf]; omega
          | some o =>
            rw [HO] at g6
            have g6' : Wa.cell? ⟨gh, k, none⟩ = some (.bool true) := g6
            have g7 := RA.out.aAt (k := k) (by rw [HN.out]; exact hlt)
            rw [HO] at g7
            have g7' : Wa.cell? ⟨ga, k, none⟩ = some (.int .u64 o) := g7
            have c1 := RA.out.c1
            rw [HN.out] at c1
            have HPN := Lib.hid (rangeN_some (lo := lo) (hi := hi) (a := o) (by rw [if_pos ⟨hlo, hhi⟩]; exact HO))
            have ho := HR.out.wf.wf k o HO
            clear g6 g7
            obtain ⟨A8, c8, W8, hr8, ho8, hg8⟩ := Kind.append_one_b (K := wordK) HB.out.size HP.out o ho #[.int .u64 o] rfl (by omega)
            have R8 := Lib.hid hr8
            have P8 : Hid (wordK.Row W8 w.heap.size A8 (j + 1) c8 (rangeN s lo hi (k + 1))) := by rw [HPN.out]; exact ho8
            have B8 := Lib.hid (HB.out.grown hg8 HB.out.size (fun b hb => (HP.out.row.lt b hb).1))
            clear hr8 ho8 hg8 HP HB HPN HO
            go_wp2_with (at_builtin; refine wpList_append_run rfl (.tmp 35) (.tmp 43) 41 rfl rfl rfl R8.out ?_)
            go_roundw
            case rel => exact ⟨k + 1, j + 1, A8, c8, rfl, by go_num, by omega, by omega, P8, B8⟩
            case measure => simp [intOf]; omega
        · skip
          have HE : (if lo ≤ (k : Int) ∧ (k : Int) < hi then s.getD k none else none) = none := if_neg (fun h => hhi h.2)
          rw [← rangeN_none HE] at HP
          clear HE
          go_wp2_with fail
          go_roundw
          case rel => exact ⟨k + 1, j, A, c, rfl, by go_num, by omega, by omega, HP, HB⟩
          case measure => simp [intOf]; omega
      · skip
        have HE : (if lo ≤ (k : Int) ∧ (k : Int) < hi then s.getD k none else none) = none := if_neg (fun h => hlo h.1)
        rw [← rangeN_none HE] at HP
        clear HE
        go_wp2_with fail
        go_roundw
        case rel => exact ⟨k + 1, j, A, c, rfl, by go_num, by omega, by omega, HP, HB⟩
        case measure => simp [intOf]; omega
    · obtain rfl : k = n := by omega
      rw [show rangeN s lo hi k = rangeBk s lo hi by rw [rangeN_all, HN.out]] at HP
      go_wp2_with fail
      go_ret
      exact ⟨A, j, c, rfl, HP, HB⟩
end
end Go.Proofs.Ytiojnpoefbnjoaa
