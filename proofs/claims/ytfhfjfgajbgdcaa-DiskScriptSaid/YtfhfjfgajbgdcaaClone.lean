/- The contract of bytes.Clone: what it answers is new. Conditions: the slice's cells; at most 8000 bytes. -/
import Derived.Test.YtfhfjfgajbgdcaaOwn
import Derived.Lib.SliceRun
set_option linter.unusedVariables false
set_option linter.unusedSimpArgs false
namespace Go.Proofs.Ytfhfjfgajbgdcaa
open Go.RowKit

theorem own_empty0 {base : Nat} (W : World) (hb : base ≤ W.heap.size) : Own (W.alloc (.cells #[] 5)) base (some ⟨W.heap.size, 0, none⟩) 0 0 [] :=
  ⟨World.ownsRow_lit W #[] 0 hb (by unfold maxLen; omega) (by simp), fun k => by simp⟩
set_option maxHeartbeats 1000000 in
theorem clone8_any (A : Option Addr) (n c : Nat) (bs : List Nat) (w : World) (hn : n ≤ 8000) (hA : Bytes w w.heap.size A n bs) :
    Calls Try.prog 34 #[.slice A n c] w (GivesBytes w bs) := by
  rcases A with _ | ad
  · have hn0 : bs = [] := by
      rcases Nat.eq_zero_or_pos n with h | h
      · exact List.eq_nil_of_length_eq_zero (hA.len.trans h)
      · obtain ⟨ad, h', _⟩ := hA.lies 0 h
        cases h'
    subst hn0
    clear hA
    have heq : ∀ W : World, (binOp .eql 34 (.slice none n c) (.slice none 0 0)).run Try.prog W = .ok (.bool true) W := fun W => Lib.run_eql_slice_nil W _ _ _ _ _ _ _ Try.underlying34
    go_enter Try.func34, Try.ntmps34
    go_wp2
    go_ret
    exact ⟨_, _, _, rfl, Own.none_, Below.refl _ _⟩
  · have hS := since_alloc (Below.refl w.heap.size w) (.cells #[] 5)
    obtain ⟨A2, c2, W2, hr, ho, hb⟩ := own_append (c' := c) hS (own_empty0 w (Nat.le_refl _)) (hA.since hS) (by omega)
    rw [Nat.zero_add] at hr ho
    rw [List.nil_append] at ho
    have R := Lib.hid hr
    have HO := Lib.hid ho
    have HB := Lib.hid hb
    clear hr ho hb hA hS
    have heq : ∀ W : World, (binOp .eql 34 (.slice (some ad) n c) (.slice none 0 0)).run Try.prog W = .ok (.bool false) W := fun W => Lib.run_eql_slice_nil W _ _ _ _ _ _ _ Try.underlying34
    go_enter Try.func34, Try.ntmps34
    go_wp2_with (at_builtin; refine wpList_append_run rfl (.tmp 5) (.tmp 6) 34 rfl rfl rfl R.out ?_)
    go_ret
    exact ⟨_, _, _, rfl, HO.out, HB.out⟩
end Go.Proofs.Ytfhfjfgajbgdcaa
