/- The statements' SameInts (of equal lists) and OverInts. Conditions: the slices' cells; at most 7000 numbers are written over. -/
import Derived.Test.YtmfpelgkjgpfmaaInts
import Derived.Test.YtmfpelgkjgpfmaaKindMade
import Derived.Test.YtmfpelgkjgpfmaaSays
set_option linter.unusedVariables false
set_option linter.unusedSimpArgs false
namespace Go.Proofs.Ytmfpelgkjgpfmaa
open Go.RowKit

theorem int_at {w : World} {B n : Nat} {A : Option Addr} {xs : List Int} (h : intK.Lie w B A n xs) {k : Nat} (hk : k < n) : ∃ ad, A = some ad ∧ ad.block < B ∧ w.cell? (ad.add k) = some (.int .i64 (xs.getD k 0)) := by
  obtain ⟨ad, e1, e2, e3⟩ := h.each k hk
  have := intAt_of (x := xs.getD k 0) e3
  rw [show k * intK.k = k from Nat.mul_one k] at this
  exact ⟨ad, e1, e2, this⟩
set_option maxHeartbeats 1000000 in
theorem sameints_yes (A A' : Option Addr) (n c c' : Nat) (xs : List Int) (w : World) (hn : n ≤ 9223372036854775807) (hA : intK.Lie w w.heap.size A n xs) (hA' : intK.Lie w w.heap.size A' n xs) :
    Calls Try.prog 20 #[.slice A n c, .slice A' n c'] w fun e w' => e = .returned (.bool true) ∧ Below w.heap.size w w' := by
  have HA := Lib.hid hA
  have HA' := Lib.hid hA'
  clear hA hA'
  go_enter Try.func20, Try.ntmps20
  go_wp2
  go_loopw [5] (fun t5 wr => ∃ (k m : Nat), k ≤ n ∧ t5 = .int .i64 k ∧ wr = w.drewN m) (fun t5 _ => n - (intOf t5).toNat)
  case atStart => exact ⟨0, 0, Nat.zero_le _, rfl, rfl⟩
  case round =>
    obtain ⟨k, m, hk, rfl, rfl⟩ := hrel
    by_cases hlt : k < n
    · obtain ⟨ad, hA, hblk, hcell⟩ := int_at HA.out hlt
      obtain ⟨ad', hA', hblk', hcell'⟩ := int_at HA'.out hlt
      obtain ⟨y, HY⟩ : ∃ y : Int, Hid (xs.getD k 0 = y) := ⟨_, rfl⟩
      rw [HY.out] at hcell hcell'
      subst hA hA'
      have i0 : (0 : Int) ≤ (k : Int) := by omega
      have i1 : (k : Int) < (n : Int) := by omega
      go_wp2
      go_quiet (fail)
      go_wp2
      go_roundw
      case rel => exact ⟨k + 1, m + nq, by omega, by go_num, rfl⟩
      case measure => simp [intOf]; omega
    · go_wp2
      go_ret
      exact ⟨rfl, below_drewN (Below.refl _ _) _⟩
end Go.Proofs.Ytmfpelgkjgpfmaa
