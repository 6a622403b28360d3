/- Cells of bools and of numbers; runs of single operations on them. No conditions. -/
import Derived.Test.YtiojnpoefbnjoaaTurnsMath14
import Derived.Test.YtiojnpoefbnjoaaKindMade
import Derived.Test.YtiojnpoefbnjoaaBools
import Derived.Test.YtiojnpoefbnjoaaWordK
set_option linter.unusedVariables false
set_option linter.unusedSimpArgs false
namespace Go.Proofs.Ytiojnpoefbnjoaa
open Go.RowKit

/-- An array's cells. -/
def boolsC (l : List Bool) : Array Value := (l.map fun x => Value.bool x).toArray
def wordsC (l : List Int) : Array Value := (l.map fun x => Value.int .u64 x).toArray
theorem boolsC_at {l : List Bool} {k : Nat} (hk : k < l.length) : (boolsC l)[k]? = some (.bool (l.getD k false)) := by
  unfold boolsC
  rw [List.getElem?_toArray, List.getElem?_map, List.getD_eq_getElem?_getD, List.getElem?_eq_getElem hk]; rfl
theorem wordsC_at {l : List Int} {k : Nat} (hk : k < l.length) : (wordsC l)[k]? = some (.int .u64 (l.getD k 0)) := by
  unfold wordsC
  rw [List.getElem?_toArray, List.getElem?_map, List.getD_eq_getElem?_getD, List.getElem?_eq_getElem hk]; rfl
theorem boolsC_set (l : List Bool) (k : Nat) (x : Bool) : (boolsC l).setIfInBounds k (.bool x) = boolsC (l.set k x) := by unfold boolsC; rw [List.setIfInBounds_toArray, List.map_set]
theorem wordsC_set (l : List Int) (k : Nat) (x : Int) : (wordsC l).setIfInBounds k (.int .u64 x) = wordsC (l.set k x) := by unfold wordsC; rw [List.setIfInBounds_toArray, List.map_set]
theorem run_build_int (x : Int) (w : World) : (Instr.buildSlice 44 1 #[(0, .int .i64 x)]).run Try.prog w = .ok (.slice (some ⟨w.heap.size, 0, none⟩) 1 1) (w.alloc (.cells #[.int .i64 x] 3)) := by go_simp
theorem run_build_word (x : Int) (w : World) : (Instr.buildSlice 41 1 #[(0, .int .u64 x)]).run Try.prog w = .ok (.slice (some ⟨w.heap.size, 0, none⟩) 1 1) (w.alloc (.cells #[.int .u64 x] 28)) := by go_simp
theorem run_index_own (q k : Nat) (hk : k < 8) (w : World) : (Instr.indexAt 55 (.pointer (some ⟨q, 0, none⟩)) (.int .i64 (k : Int))).run Try.prog w = .ok (.pointer (some ⟨q, k, none⟩)) w := by
  have i0 : (0 : Int) ≤ (k : Int) := by omega
  have i1 : (k : Int) < 8 := by omega
  go_simp
theorem run_load_word (p : Addr) (z : Int) (w : World) (hc : w.cell? p = some (.int .u64 z)) : (Instr.loadAt 28 (.pointer (some p))).run Try.prog w = .ok (.int .u64 z) w := by go_simp
theorem bools_made (P : Nat) : madeCells #[.bool false] P = boolsC (List.replicate P false) := by
  apply Array.ext'
  have := boolK.made_cells P
  rw [show P * boolK.k = P from Nat.mul_one P] at this
  have key : ∀ l : List Bool, boolK.cells l = l.map fun x => Value.bool x := fun l => by
    induction l with
    | nil => rfl
    | cons x r ih =>
      show boolK.cv x ++ boolK.cells r = _
      rw [ih]; rfl
  rw [show madeCells #[.bool false] P = madeCells (boolK.cv boolK.dflt).toArray P from rfl, this, key]
  rfl
theorem words_made (P : Nat) : madeCells #[.int .u64 0] P = wordsC (List.replicate P 0) := by
  apply Array.ext'
  have := wordK.made_cells P
  rw [show P * wordK.k = P from Nat.mul_one P] at this
  have key : ∀ l : List Int, wordK.cells l = l.map fun x => Value.int .u64 x := fun l => by
    induction l with
    | nil => rfl
    | cons x r ih =>
      show wordK.cv x ++ wordK.cells r = _
      rw [ih]; rfl
  rw [show madeCells #[.int .u64 0] P = madeCells (wordK.cv wordK.dflt).toArray P from rfl, this, key]
  rfl
theorem run_make_bools (P : Nat) (hP : P ≤ 256) (W : World) : (Instr.makeSlice 40 (.int .i64 (P : Int)) (.int .i64 (P : Int))).run Try.prog W = .ok (.slice (some ⟨W.heap.size, 0, none⟩) P P) (W.alloc (.cells (boolsC (List.replicate P false)) 4)) := by
  obtain ⟨i0, hi, hz0, hz1, hz2⟩ := info_parts infoB
  have h := run_make (P := Try.prog) W 40 4 i0 _ Try.underlying40 hi hz0 .i64 .i64 (P : Int) (P : Int) (by omega) (by omega) (by rw [hz2]; omega) (by omega)
  rw [h, hz1, Nat.mul_one, ← bools_made]
  rfl
theorem run_make_words (P : Nat) (hP : P ≤ 256) (W : World) : (Instr.makeSlice 41 (.int .i64 (P : Int)) (.int .i64 (P : Int))).run Try.prog W = .ok (.slice (some ⟨W.heap.size, 0, none⟩) P P) (W.alloc (.cells (wordsC (List.replicate P 0)) 28)) := by
  obtain ⟨i0, hi, hz0, hz1, hz2⟩ := info_parts infoU64
  have h := run_make (P := Try.prog) W 41 28 i0 _ Try.underlying41 hi hz0 .i64 .i64 (P : Int) (P : Int) (by omega) (by omega) (by rw [hz2]; omega) (by omega)
  rw [h, hz1, Nat.mul_one, ← words_made]
  rfl
end Go.Proofs.Ytiojnpoefbnjoaa
