/- The statements' SameWords (of equal lists) and OverWords. Conditions: the slices' cells; at most 7000 numbers are written over. -/
import Derived.Test.YtfidamiomnohcaaWordK
import Derived.Test.YtfidamiomnohcaaKindMade
import Derived.Test.YtfidamiomnohcaaSays
set_option linter.unusedVariables false
set_option linter.unusedSimpArgs false
set_option maxRecDepth 20000
namespace Go.Proofs.Ytfidamiomnohcaa
open Go.RowKit

set_option maxHeartbeats 1000000 in
theorem samewords_yes (A A' : Option Addr) (n c c' : Nat) (xs : List Int) (w : World) (hn : n ≤ 9223372036854775807) (hA : wordK.Lie w w.heap.size A n xs) (hA' : wordK.Lie w w.heap.size A' n xs) :
    Calls Try.prog 22 #[.slice A n c, .slice A' n c'] w fun e w' => e = .returned (.bool true) ∧ Below w.heap.size w w' := by
  have HA := Lib.hid hA
  have HA' := Lib.hid hA'
  clear hA hA'
  go_enter Try.func22, Try.ntmps22
  go_wp2
  go_loopw [5] (fun t5 wr => ∃ (k m : Nat), k ≤ n ∧ t5 = .int .i64 k ∧ wr = w.drewN m) (fun t5 _ => n - (intOf t5).toNat)
  case atStart => exact ⟨0, 0, Nat.zero_le _, rfl, rfl⟩
  case round =>
    obtain ⟨k, m, hk, rfl, rfl⟩ := hrel
    by_cases hlt : k < n
    · obtain ⟨ad, hA, hblk, hcell⟩ := word_at HA.out hlt
      obtain ⟨ad', hA', hblk', hcell'⟩ := word_at HA'.out hlt
      obtain ⟨y, HY⟩ : ∃ y : Int, Hid (xs.getD k 0 = y) := ⟨_, rfl⟩
      rw [HY.out] at hcell hcell'
      subst hA hA'
      have i0 : (0 : Int) ≤ (k : Int) := by omega
      have i1 : (k : Int) < (n : Int) := by omega
      go_wp2
      go_quiet (fail)
      go_wp2
      go_roundw
      case rel => exact ⟨k + 1, m + nq, by omega, by go_num, rfl⟩
      case measure => simp [intOf]; omega
    · go_wp2
      go_ret
      exact ⟨rfl, below_drewN (Below.refl _ _) _⟩
set_option maxHeartbeats 2000000 in
theorem overwords_any (A : Option Addr) (n c base : Nat) (xs : List Int) (w : World) (hn : n ≤ 7000) (hbase : base ≤ w.heap.size) (hO : wordK.Row w base A n c xs) :
    Calls Try.prog 24 #[.slice A n c] w fun e w' => e = .returned (.tuple #[]) ∧ w.grownBy w' (Value.slice A n c).ownBlock := by
  have HO := Lib.hid hO
  have HNZ : Hid (0 < n → ∃ g, A = some ⟨g, 0, none⟩) := fun h => by
    rcases hO.row.2 with ⟨_, h0⟩ | ⟨g, cap, cur, hv, hbg, hg, _⟩
    · omega
    · injection hv with e1 e2 e3
      exact ⟨g, e1⟩
  clear hO
  go_enter Try.func24, Try.ntmps24
  go_wp2_with fail
  go_loopw [2] (fun t2 wr => ∃ (j : Nat) (cs : List Int), t2 = .int .i64 j ∧ j ≤ n ∧ Hid (wordK.Row wr base A n c cs) ∧ Hid (w.grownBy wr (Value.slice A n c).ownBlock)) (fun t2 _ => n - (intOf t2).toNat)
  case atStart => exact ⟨0, xs, rfl, Nat.zero_le _, HO, World.grownBy.refl _ _⟩
  case round =>
    obtain ⟨j, cs, rfl, hj, HR, HG⟩ := hrel
    by_cases hlt : j < n
    · obtain ⟨g, rfl⟩ := HNZ.out (by omega)
      obtain ⟨ad, hA, hblk, hcell⟩ := word_at HR.out.lie hlt
      obtain rfl := Option.some.inj hA
      rw [add_zero_addr] at hcell
      obtain ⟨u, HU⟩ : ∃ u : Value, Hid (u = .int .u64 (cs.getD j 0)) := ⟨_, rfl⟩
      rw [← HU.out] at hcell
      have f0 : wr.frozen? ⟨g, j, none⟩ = false := HR.out.row.frozenAt _
      have hr := HR.out.put (i := j) (r := 0) hlt (by decide) (.int .u64 999) 999 rfl ⟨by decide, by decide⟩
      rw [show j * wordK.k + 0 = j from Nat.mul_one j] at hr
      have HR3 := Lib.hid hr
      have HG3 : Hid (w.grownBy (wr.setCell ⟨g, j, none⟩ (.int .u64 999)) (some g)) := grownBy_trans HG.out (setCell_else wr ⟨g, j, none⟩ _)
      have i0 : (0 : Int) ≤ (j : Int) := by omega
      have i1 : (j : Int) < (n : Int) := by omega
      clear hr
      go_wp2
      go_roundw
      case rel => exact ⟨j + 1, _, by go_num, by omega, HR3, HG3⟩
      case measure => simp [intOf]; omega
    · obtain ⟨A9, c9, W9, hr9, ho9, hg9⟩ := Kind.append_one_b (K := wordK) (Nat.le_trans hbase HG.out.size) HR.out 999 ⟨by decide, by decide⟩ #[.int .u64 999] rfl (by omega)
      have R9 := Lib.hid hr9
      have HG9 := Lib.hid (grownBy_trans HG.out hg9)
      clear hr9 ho9 hg9
      go_wp2_with (at_builtin; refine wpList_append_run rfl (.tmp 12) (.tmp 13) 34 rfl rfl rfl R9.out ?_)
      go_end0
      exact ⟨rfl, HG9.out⟩
end Go.Proofs.Ytfidamiomnohcaa
