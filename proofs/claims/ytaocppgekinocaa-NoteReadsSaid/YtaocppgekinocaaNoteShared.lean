/- What the statements share of notes: SameNotes of equal lists, LendNotes, KeptNotes, OverNotes. Conditions: the slices' cells; at most 900 notes. -/
import Derived.Test.YtaocppgekinocaaNoteLay
import Derived.Test.YtaocppgekinocaaShared
set_option linter.unusedVariables false
set_option linter.unusedSimpArgs false
namespace Go.Proofs.Ytaocppgekinocaa
open Go.RowKit

set_option maxHeartbeats 1000000 in
theorem samenotes_yes (A A' : Option Addr) (n c c' : Nat) (vs : List V) (w : World) (hn : n ≤ 9223372036854775807) (hA : Notes w w.heap.size A n vs) (hA' : Notes w w.heap.size A' n vs) :
    Calls Try.prog 25 #[.slice A n c, .slice A' n c'] w fun e w' => e = .returned (.bool true) ∧ ∃ m, w' = w.drewN m := by
  have HA := Lib.hid hA
  have HA' := Lib.hid hA'
  clear hA hA'
  go_enter Try.func25, Try.ntmps25
  go_wp2
  go_loopw [5] (fun t5 wr => ∃ (k m : Nat), k ≤ n ∧ t5 = .int .i64 k ∧ wr = w.drewN m) (fun t5 _ => n - (intOf t5).toNat)
  case atStart => exact ⟨0, 0, Nat.zero_le _, rfl, rfl⟩
  case round =>
    obtain ⟨k, m, hk, rfl, rfl⟩ := hrel
    by_cases hlt : k < n
    · obtain ⟨ad, hA, hblk, c0, c1, c2, c3, c4⟩ := HA.out.each k hlt
      obtain ⟨ad', hA', hblk', e0, e1, e2, e3, e4⟩ := HA'.out.each k hlt
      obtain ⟨v, HV⟩ : ∃ v, Hid (vs.getD k V.zero = v) := ⟨_, rfl⟩
      rw [HV.out] at c0 c1 c2 c3 c4 e0 e1 e2 e3 e4
      subst hA hA'
      have i0 : (0 : Int) ≤ (k : Int) := by omega
      have i1 : (k : Int) < (n : Int) := by omega
      go_wp2
      go_quiet (fail)
      go_wp2
      go_roundw
      case rel => exact ⟨k + 1, m + nq, by omega, by go_num, rfl⟩
      case measure => simp [intOf]; omega
    · go_wp2
      go_ret
      exact ⟨rfl, _, rfl⟩
theorem samenotes_since (A A' : Option Addr) (n c c' : Nat) (vs : List V) (w : World) (hn : n ≤ 9223372036854775807) (hA : Notes w w.heap.size A n vs) (hA' : Notes w w.heap.size A' n vs) :
    Calls Try.prog 25 #[.slice A n c, .slice A' n c'] w (SaysB w true) :=
  (samenotes_yes A A' n c c' vs w hn hA hA').mono fun e w' ⟨he, m, hw⟩ => ⟨he, hw ▸ below_drewN (Below.refl _ _) m⟩
end Go.Proofs.Ytaocppgekinocaa
