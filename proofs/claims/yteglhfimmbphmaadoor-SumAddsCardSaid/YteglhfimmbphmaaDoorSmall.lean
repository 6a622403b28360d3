/- The contracts of the statements' Great (it answers), SameBytes, Num of nil. Conditions: the slices' cells. -/
import Derived.Test.YteglhfimmbphmaaDoorOf
set_option linter.unusedVariables false
set_option linter.unusedSimpArgs false
namespace Go.Proofs.YteglhfimmbphmaaDoor
open Go.RowKit

def SomeBool (w : World) (e : Ending) (w' : World) : Prop := ∃ b : Bool, e = .returned (.bool b) ∧ w = w'
set_option maxHeartbeats 1000000 in
theorem great_any (A : Option Addr) (n c : Nat) (ps : List (List Nat)) (x y : Int) (w : World) (hn : n ≤ 9223372036854775807) (hA : Parts w w.heap.size A n ps) :
    Calls Tryd.prog 8 #[.slice A n c, .int .i64 x, .int .i64 y] w (SomeBool w) := by
  have HA := Lib.hid hA
  clear hA
  go_enter Tryd.func8, Tryd.ntmps8
  go_wp2
  go_loop [7] (fun t7 => ∃ (k : Nat), k ≤ n ∧ t7 = .int .i64 k) (fun t7 => n - (intOf t7).toNat)
  case atStart => exact ⟨0, Nat.zero_le _, rfl⟩
  case round =>
    obtain ⟨k, hk, rfl⟩ := hrel
    by_cases hlt : k < n
    · obtain ⟨ad, A', n', c', hA, hblk, hcell, hn', hB⟩ := HA.out.each k hlt
      clear hB
      subst hA
      by_cases hx : (n : Int) ≤ x <;> by_cases hy : y < (n' : Int)
      all_goals
        go_wp2
        first
          | (go_ret; exact ⟨_, rfl, rfl⟩)
          | (go_round
             case rel => exact ⟨k + 1, by omega, by go_num⟩
             case measure => simp [intOf]; omega)
    · go_wp2
      go_ret
      exact ⟨_, rfl, rfl⟩

def sameB (a b : List Nat) : Bool := decide (a = b)
set_option maxHeartbeats 1000000 in
theorem same_yes (A A' : Option Addr) (n c c' : Nat) (bs : List Nat) (w : World) (hn : n ≤ 9223372036854775807) (hA : Bytes w w.heap.size A n bs) (hA' : Bytes w w.heap.size A' n bs) :
    Calls Tryd.prog 18 #[.slice A n c, .slice A' n c'] w fun e w' => e = .returned (.bool true) ∧ ∃ m, w' = w.drewN m := by
  have HA := Lib.hid hA
  have HA' := Lib.hid hA'
  clear hA hA'
  go_enter Tryd.func18, Tryd.ntmps18
  go_wp2
  go_loopw [5] (fun t5 wr => ∃ (k m : Nat), k ≤ n ∧ t5 = .int .i64 k ∧ wr = w.drewN m) (fun t5 _ => n - (intOf t5).toNat)
  case atStart => exact ⟨0, 0, Nat.zero_le _, rfl, rfl⟩
  case round =>
    obtain ⟨k, m, hk, rfl, rfl⟩ := hrel
    by_cases hlt : k < n
    · obtain ⟨ad, hA, hblk, hcell⟩ := HA.out.at_ hlt
      obtain ⟨ad', hA', hblk', hcell'⟩ := HA'.out.at_ hlt
      obtain ⟨y, HY⟩ : ∃ y : Int, Hid (((bs.getD k 0 : Nat) : Int) = y) := ⟨_, rfl⟩
      rw [HY.out] at hcell hcell'
      subst hA hA'
      have i0 : (0 : Int) ≤ (k : Int) := by omega
      have i1 : (k : Int) < (n : Int) := by omega
      go_wp2
      go_quiet (fail)
      go_wp2
      go_roundw
      case rel => exact ⟨k + 1, m + nq, by omega, by go_num, rfl⟩
      case measure => simp [intOf]; omega
    · go_wp2
      go_ret
      exact ⟨rfl, _, rfl⟩
theorem num_nil (w : World) : Calls Tryd.prog 17 #[.nilIface] w fun e w' => e = .returned (.int .i64 0) ∧ w = w' := by
  go_enter Tryd.func17, Tryd.ntmps17
  go_wp2
  go_ret
  exact ⟨rfl, rfl⟩
end Go.Proofs.YteglhfimmbphmaaDoor
