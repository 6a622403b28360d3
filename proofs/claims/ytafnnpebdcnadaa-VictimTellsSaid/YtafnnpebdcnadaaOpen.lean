/- Arguments opened: slices of bytes, and of those. No conditions. -/
import Derived.Test.YtafnnpebdcnadaaBase
import Derived.ProofKit
import Derived.Deep.DeepHandedRow
import Derived.Deep.DeepWitnessRowRef
import Derived.Deep.Matrix
import Derived.Lib.LaidTab
import Derived.LaidMore
import Derived.Carry
set_option linter.unusedVariables false
set_option linter.unusedSimpArgs false
namespace Go.Proofs.Ytafnnpebdcnadaa
open Go.ChangeShapes Go.WideShapes Go.ChangeAt Go.RowKit Go.Lib

theorem own : ownKnob Try.prog.godebug = none := by kernel_rfl
theorem cells5 : Try.prog.cellsOf 5 = 1 := by kernel_rfl
theorem laidOut : laidOutB Try.prog = true := by kernel_rfl

/- slices of bytes, opened -/
theorem bytes_open {W : World} {A : Option Addr} {n : Nat} {zs : List Int} (hz : n ≤ zs.length) (hwf : ∀ z ∈ zs, (Lit.int .u8 z).wf = true) (hc : ∀ j, j < n → ∃ ad, A = some ad ∧ W.cell? (ad.add j) = some (.int .u8 (zs.getD j 0))) :
    Bytes W W.heap.size A n ((zs.take n).map Int.toNat) := by
  have hat : ∀ j, j < n → (((zs.take n).map Int.toNat).getD j 0 : Nat) = (zs.getD j 0).toNat := by
    intro j hj
    rw [List.getD_eq_getElem?_getD, List.getD_eq_getElem?_getD, List.getElem?_map, List.getElem?_take_of_lt hj, List.getElem?_eq_getElem (show j < zs.length by omega)]
    rfl
  refine ⟨by rw [List.length_map, List.length_take_of_le hz], fun j hj => ?_, fun j => ?_⟩
  · obtain ⟨ad, e, hcell⟩ := hc j hj
    refine ⟨ad, e, ?_, ?_⟩
    · have := World.block_lt_of_cell? W _ hcell
      rwa [addr_block] at this
    · rw [hcell]
      unfold byteAt
      rw [hat j hj]
      have hb := range_u8 hwf j
      rw [← List.getD_eq_getElem?_getD] at hb
      congr 2
      omega
  · by_cases hj : j < n
    · rw [hat j hj]
      have hb := range_u8 hwf j
      rw [← List.getD_eq_getElem?_getD] at hb
      omega
    · rw [List.getD_eq_getElem?_getD, List.getElem?_eq_none (by rw [List.length_map, List.length_take]; omega)]
      simp
section
variable {H : Type} {enc : TypeId × Value → H} {W : World}
end
end Go.Proofs.Ytafnnpebdcnadaa
