/- make([]byte, n) as a row of the call's own. Conditions: at most 8000 bytes. -/
import Derived.Test.YtfhfjfgajbgdcaaOwn
set_option linter.unusedVariables false
set_option linter.unusedSimpArgs false
namespace Go.Proofs.Ytfhfjfgajbgdcaa
open Go.RowKit

theorem run_made (n : Nat) (hn : n ≤ 8000) (W : World) : (Instr.makeSlice 34 (.int .i64 (n : Int)) (.int .i64 (n : Int))).run Try.prog W =
    .ok (.slice (some ⟨W.heap.size, 0, none⟩) n n) (W.alloc (.cells (madeCells #[.int .u8 0] n) 5)) := by
  obtain ⟨i0, hi, hz0, hz1, hz2⟩ := info_parts info5
  have h := run_make (P := Try.prog) W 34 5 i0 _ Try.underlying34 hi hz0 .i64 .i64 (n : Int) (n : Int) (by omega) (by omega) (by rw [hz2]; omega) (by omega)
  rw [h, hz1, Nat.mul_one]
  rfl
theorem own_made_all {base : Nat} (W : World) (n : Nat) (hn : n ≤ 8000) (hb : base ≤ W.heap.size) : Own (W.alloc (.cells (madeCells #[.int .u8 0] n) 5)) base (some ⟨W.heap.size, 0, none⟩) n n (List.replicate n 0) := by
  refine ⟨?_, fun k => ?_⟩
  · have e : cellsOf (List.replicate n 0) = (madeCells #[.int .u8 0] n).toList := by
      apply List.ext_getElem
      · simp [cellsOf, madeCells]
      · intro k h1 h2
        simp [cellsOf, madeCells, Nat.mod_one]
    rw [e]
    exact World.ownsRow_lit W (madeCells #[.int .u8 0] n) n hb (by unfold maxLen; omega) (by simp [madeCells])
  · rw [List.getD_eq_getElem?_getD, List.getElem?_replicate]; split <;> simp
theorem made_any (n : Nat) (x : Int) (hx : x = (n : Int)) (hn : n ≤ 8000) (W : World) : ∃ W', (Instr.makeSlice 34 (.int .i64 x) (.int .i64 x)).run Try.prog W = .ok (.slice (some ⟨W.heap.size, 0, none⟩) n n) W' ∧ Below W.heap.size W W' ∧ Own W' W.heap.size (some ⟨W.heap.size, 0, none⟩) n n (List.replicate n 0) := by
  subst hx
  exact ⟨_, run_made n hn W, (Below.refl _ _).alloc (Nat.le_refl _) _, own_made_all W n hn (Nat.le_refl _)⟩
end Go.Proofs.Ytfhfjfgajbgdcaa
