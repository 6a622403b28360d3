/- LendInts, KeptInts. Conditions: the slices' cells; at most 900 numbers. -/
import Derived.Test.YtggijifealljiaaLendK
import Derived.Test.YtggijifealljiaaIntsShared
set_option linter.unusedVariables false
set_option linter.unusedSimpArgs false
namespace Go.Proofs.Ytggijifealljiaa
open Go.RowKit

abbrev markI : Value := .int .i64 (-777)
theorem int_made : ∃ i z, Try.prog.info? intK.T = some i ∧ i.zero = some z ∧ i.size = intK.k ∧ i.bytes ≤ 1000 ∧ z.cells = (intK.cv intK.dflt).toArray := by
  obtain ⟨i0, hi, hz0, hz1, hz2⟩ := info_parts infoI
  exact ⟨i0, _, hi, hz0, hz1, by rw [hz2]; omega, rfl⟩
set_option maxHeartbeats 1000000 in
theorem lendints_any (A : Option Addr) (n c : Nat) (xs : List Int) (w : World) (hn : n ≤ 900) (hA : intK.Lie w w.heap.size A n xs) :
    Calls Try.prog 8 #[.slice A n c] w fun e w' => e = .returned (.slice (some ⟨w.heap.size, 0, none⟩) n (n + 3)) ∧ LentK intK markI w w' n 3 xs := by
  obtain ⟨W1, W2, hm, ha, hL⟩ := lent_runs (K := intK) (mk := markI) (w := w) rfl int_made A n c hn hA
  have hmk : (Instr.makeSlice 22 (.int .i64 0) (.int .i64 ((n : Int) + 3))).run Try.prog w = .ok (.slice (some ⟨w.heap.size, 0, none⟩) 0 (n + 3)) W1 := hm
  have happ : Hid (∀ ty, (Builtin.append_ #[22, 22] ty #[.slice (some ⟨w.heap.size, 0, none⟩) 0 (n + 3), .slice A n c]).run Try.prog W1 = .ok (.slice (some ⟨w.heap.size, 0, none⟩) n (n + 3)) W2) := ha
  have HL := Lib.hid hL
  have h3 : n + 3 - n = 3 := by omega
  clear ha hm hL hA
  go_enter Try.func8, Try.ntmps8
  go_wp2_with (at_builtin; refine wpList_append_run rfl (.tmp 10) (.tmp 11) 22 rfl rfl rfl (happ.out _) ?_)
  clear hmk happ h3
  go_loopw [5] (fun t5 wr => ∃ j : Nat, j ≤ 3 ∧ t5 = .int .i64 j ∧ Hid (LentK intK markI w wr n j xs)) (fun t5 _ => 3 - (intOf t5).toNat)
  case atStart => exact ⟨0, by omega, rfl, HL⟩
  case round =>
    obtain ⟨j, hj, rfl, HJ⟩ := hrel
    by_cases hlt : j < 3
    · obtain ⟨u, hc⟩ := HJ.out.cell j hlt
      have hf := HJ.out.free (n + j)
      go_wp2
      go_roundw
      case rel => exact ⟨j + 1, by omega, by go_num, HJ.out.step rfl hlt⟩
      case measure => simp [intOf]; omega
    · have hj3 : j = 3 := by omega
      rw [hj3] at HJ
      clear hj3
      go_wp2
      go_ret
      exact ⟨rfl, HJ.out⟩
set_option maxHeartbeats 1000000 in
theorem keptints_any (A : Option Addr) (n c : Nat) (xs : List Int) (w wr : World) (hn : n ≤ 900) (hL : LentK intK markI w wr n 3 xs) (hA : intK.Lie wr wr.heap.size A n xs) :
    Calls Try.prog 21 #[.slice (some ⟨w.heap.size, 0, none⟩) n (n + 3), .slice A n c] wr fun e w' => e = .returned (.bool true) ∧ Below wr.heap.size wr w' := by
  have HS := Lib.hid (sameints_yes (some ⟨w.heap.size, 0, none⟩) A n (n + 3) c xs wr (by omega) hL.lie hA)
  have HL := Lib.hid hL
  have h3 : n + 3 - n = 3 := by omega
  clear hA hL
  go_enter Try.func21, Try.ntmps21
  go_wp2
  clear h3
  go_loop [6] (fun t6 => ∃ j : Nat, j ≤ 3 ∧ t6 = .int .i64 j) (fun t6 => 3 - (intOf t6).toNat)
  case atStart => exact ⟨0, by omega, rfl⟩
  case round =>
    obtain ⟨j, hj, rfl⟩ := hrel
    by_cases hlt : j < 3
    · have hc := HL.out.mark j hlt
      go_wp2
      go_round
      case rel => exact ⟨j + 1, by omega, by go_num⟩
      case measure => simp [intOf]; omega
    · go_wp2_with fail
      refine HS.out.mono ?_
      rintro e w' ⟨rfl, hb⟩
      go_wp2_with fail
      go_ret
      exact ⟨rfl, hb⟩
end Go.Proofs.Ytggijifealljiaa
