/- The statements' Fill: so many bytes of a number. Conditions: at most 300 bytes. -/
import Derived.Test.YtfidamiomnohcaaOver
set_option linter.unusedVariables false
set_option linter.unusedSimpArgs false
set_option maxRecDepth 20000
namespace Go.Proofs.Ytfidamiomnohcaa
open Go.RowKit

/-- A byte of Fill's. -/
def fillB (x : Int) (k : Nat) : Nat := ((x / 2 ^ (8 * (k % 4)) + (k : Int)) % 256).toNat
def fillL (x : Int) (n : Nat) : List Nat := (List.range n).map (fillB x)
theorem fillB_cast (x : Int) (k : Nat) : (x / 2 ^ (8 * (k % 4)) + (k : Int)) % 256 = ((fillB x k : Nat) : Int) := by
  unfold fillB
  have := Int.emod_nonneg (x / 2 ^ (8 * (k % 4)) + (k : Int)) (show (256 : Int) ≠ 0 by decide)
  omega
theorem fillB_lt (x : Int) (k : Nat) : fillB x k < 256 := by
  have h := fillB_cast x k
  have := Int.emod_lt_of_pos (x / 2 ^ (8 * (k % 4)) + (k : Int)) (show (0 : Int) < 256 by decide)
  omega
theorem fillL_len (x : Int) (n : Nat) : (fillL x n).length = n := by simp [fillL]
theorem fillL_lt {x : Int} {n : Nat} : ∀ b ∈ fillL x n, b < 256 := fun b hb => by
  obtain ⟨k, _, rfl⟩ := List.mem_map.1 hb
  exact fillB_lt x k
theorem fillL_next (x : Int) (n : Nat) : fillL x (n + 1) = fillL x n ++ [fillB x n] := by simp [fillL, List.range_succ]
set_option maxHeartbeats 2000000 in
theorem fill_any (x : Int) (n : Nat) (w : World) (hn : n ≤ 300) :
    Calls Try.prog 25 #[.int .i64 x, .int .i64 (n : Int)] w (GivesBytes w (fillL x n)) := by
  have HN : Hid ((n : Int) ≤ 300) := by show (n : Int) ≤ 300; omega
  go_enter Try.func25, Try.ntmps25
  go_wp2_with fail
  go_loopw [5, 6] (fun t5 t6 wr => ∃ (k c5 : Nat) (A5 : Option Addr) (us : List Nat), t6 = .int .i64 k ∧ k ≤ n ∧ t5 = .slice A5 k c5 ∧ Hid (us = fillL x k) ∧ Hid (Own wr w.heap.size A5 k c5 us) ∧ Hid (Below w.heap.size w wr)) (fun _ t6 _ => n - (intOf t6).toNat)
  case atStart => exact ⟨0, 0, none, [], rfl, Nat.zero_le _, rfl, rfl, Own.none_, Below.refl _ _⟩
  case round =>
    obtain ⟨k, c5, A5, us, rfl, hk, rfl, HU, HO, HB⟩ := hrel
    have i0 : (0 : Int) ≤ (k : Int) := by omega
    by_cases hlt : k < n
    · have i1 : (k : Int) < (n : Int) := by omega
      have i2 : (n : Int) ≤ 300 := HN.out
      obtain ⟨A2, c2, W2, hr, ho, hb⟩ := own_append_one HB.out HO.out ((x / 2 ^ (8 * (k % 4)) + (k : Int)) % 256) (fillB x k) (fillB_cast x k) (fillB_lt x k) (by omega)
      have R9 := Lib.hid hr
      have O9 := Lib.hid ho
      have B9 := Lib.hid hb
      have HU9 : Hid (us ++ [fillB x k] = fillL x (k + 1)) := by show _ = _; rw [fillL_next, HU.out]
      clear hr ho hb
      go_wp2_with (at_builtin; refine wpList_append_run rfl (.tmp 16) (.tmp 26) 30 rfl rfl rfl R9.out ?_)
      go_roundw
      case rel => exact ⟨k + 1, c2, A2, us ++ [fillB x k], by go_num, by omega, rfl, HU9, O9, B9⟩
      case measure => simp [intOf]; omega
    · have HF : Hid (us = fillL x n) := by
        have : k = n := by omega
        show _ = _; rw [HU.out, this]
      have HR : Hid (Own wr w.heap.size A5 n c5 us) := by
        have : k = n := by omega
        rw [← this]; exact HO
      obtain rfl : k = n := by omega
      go_wp2_with fail
      go_ret
      exact ⟨_, _, _, rfl, HR.out.same HF.out, HB.out⟩
end Go.Proofs.Ytfidamiomnohcaa
