/- The contract of slices.Clone of mishaps: what it answers is new. Conditions: the slice's cells; at most 8000. -/
import Derived.Test.YtgamjffedlkbeaaMish
import Derived.Lib.SliceRun
set_option linter.unusedVariables false
set_option linter.unusedSimpArgs false
namespace Go.Proofs.Ytgamjffedlkbeaa
open Go.RowKit

theorem row_empty {α : Type} {K : Kind α} {base : Nat} (W : World) (hb : base ≤ W.heap.size) : K.Row (W.alloc (.cells #[] K.T)) base (some ⟨W.heap.size, 0, none⟩) 0 0 [] :=
  ⟨World.ownsRow_lit W #[] 0 hb (by unfold maxLen; omega) (by simp), fun v hv => by cases hv⟩
set_option maxHeartbeats 1000000 in
theorem cloneM_any (A : Option Addr) (n c : Nat) (ms : List M) (w : World) (hn : n ≤ 8000) (hA : mishK.Lie w w.heap.size A n ms) :
    Calls Try.prog 27 #[.slice A n c] w (GivesM w ms) := by
  rcases A with _ | ad
  · have hn0 : ms = [] := by
      rcases Nat.eq_zero_or_pos n with h | h
      · exact List.eq_nil_of_length_eq_zero (hA.len.trans h)
      · obtain ⟨ad, h', _⟩ := hA.each 0 h
        cases h'
    subst hn0
    clear hA
    have heq : ∀ W : World, (binOp .eql 52 (.slice none n c) (.slice none 0 0)).run Try.prog W = .ok (.bool true) W := fun W => Lib.run_eql_slice_nil W _ _ _ _ _ _ _ Try.underlying52
    go_enter Try.func27, Try.ntmps27
    go_wp2
    go_ret
    exact ⟨_, _, _, rfl, Kind.Row.none_, Below.refl _ _⟩
  · have hS := since_alloc (Below.refl w.heap.size w) (.cells #[] 45)
    obtain ⟨A2, c2, W2, hr, ho, hb, _⟩ := Kind.append_g (K := mishK) (c' := c) hS (row_empty (K := mishK) w (Nat.le_refl _)) (hA.since hS) (by omega)
    rw [Nat.zero_add] at hr ho
    rw [List.nil_append] at ho
    have R := Lib.hid hr
    have HO := Lib.hid ho
    have HB := Lib.hid hb
    clear hr ho hb hA hS
    have heq : ∀ W : World, (binOp .eql 52 (.slice (some ad) n c) (.slice none 0 0)).run Try.prog W = .ok (.bool false) W := fun W => Lib.run_eql_slice_nil W _ _ _ _ _ _ _ Try.underlying52
    go_enter Try.func27, Try.ntmps27
    go_wp2_with (at_builtin; refine wpList_append_run rfl (.tmp 5) (.tmp 6) 52 rfl rfl rfl R.out ?_)
    go_ret
    exact ⟨_, _, _, rfl, HO, HB⟩
end Go.Proofs.Ytgamjffedlkbeaa
