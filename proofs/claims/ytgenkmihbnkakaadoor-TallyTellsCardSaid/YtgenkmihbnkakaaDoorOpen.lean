/- Arguments opened: slices of bytes, and of those. No conditions. -/
import Derived.Test.YtgenkmihbnkakaaDoorBase
import Derived.ProofKit
import Derived.Deep.DeepHandedRow
import Derived.Deep.DeepWitnessRowRef
import Derived.Deep.Matrix
import Derived.Lib.LaidTab
import Derived.LaidMore
import Derived.Carry
set_option linter.unusedVariables false
set_option linter.unusedSimpArgs false
set_option maxRecDepth 20000
namespace Go.Proofs.YtgenkmihbnkakaaDoor
open Go.ChangeShapes Go.WideShapes Go.ChangeAt Go.RowKit Go.Lib

theorem own : ownKnob Tryd.prog.godebug = none := by kernel_rfl
theorem cells5 : Tryd.prog.cellsOf 5 = 1 := by kernel_rfl
theorem cells24 : Tryd.prog.cellsOf 52 = 1 := by kernel_rfl
theorem laidOut : laidOutB Tryd.prog = true := by kernel_rfl

/- slices of bytes, opened -/
theorem bytes_open {W : World} {A : Option Addr} {n : Nat} {zs : List Int} (hz : n ≤ zs.length) (hwf : ∀ z ∈ zs, (Lit.int .u8 z).wf = true) (hc : ∀ j, j < n → ∃ ad, A = some ad ∧ W.cell? (ad.add j) = some (.int .u8 (zs.getD j 0))) :
    Bytes W W.heap.size A n ((zs.take n).map Int.toNat) := by
  have hat : ∀ j, j < n → (((zs.take n).map Int.toNat).getD j 0 : Nat) = (zs.getD j 0).toNat := by
    intro j hj
    rw [List.getD_eq_getElem?_getD, List.getD_eq_getElem?_getD, List.getElem?_map, List.getElem?_take_of_lt hj, List.getElem?_eq_getElem (show j < zs.length by omega)]
    rfl
  refine ⟨by rw [List.length_map, List.length_take_of_le hz], fun j hj => ?_, fun j => ?_⟩
  · obtain ⟨ad, e, hcell⟩ := hc j hj
    refine ⟨ad, e, ?_, ?_⟩
    · have := World.block_lt_of_cell? W _ hcell
      rwa [addr_block] at this
    · rw [hcell]
      unfold byteAt
      rw [hat j hj]
      have hb := range_u8 hwf j
      rw [← List.getD_eq_getElem?_getD] at hb
      congr 2
      omega
  · by_cases hj : j < n
    · rw [hat j hj]
      have hb := range_u8 hwf j
      rw [← List.getD_eq_getElem?_getD] at hb
      omega
    · rw [List.getD_eq_getElem?_getD, List.getElem?_eq_none (by rw [List.length_map, List.length_take]; omega)]
      simp
section
variable {H : Type} {enc : TypeId × Value → H} {W : World}
theorem open_bytes {v : Value} {d : DataW H} {p : List MemPlace} {b0 : Nat} (hval : Value.okWide Tryd.prog W .any b0 52 v) (h : DataW.Trod enc Tryd.prog W 0 (fun _ => true) true 52 v d p) :
    ∃ A n c bs, v = .slice A n c ∧ n ≤ c ∧ n ≤ 9223372036854775807 ∧ Bytes W W.heap.size A n bs := by
  obtain ⟨a0, len, cap, rfl⟩ := okWide_slice Tryd.underlying52 hval
  obtain ⟨fuel, hf⟩ := h
  rcases open_ints Tryd.underlying52 Tryd.underlying5 cells5 hf with ⟨hcs, hx⟩ | ⟨a, len', cap', zs, hcs, _, hl, hm, hz, hx, hcell, hwz⟩
  · simp [Value.cells] at hcs
    obtain ⟨rfl, rfl, rfl⟩ := hcs
    exact ⟨_, _, _, [], rfl, Nat.le_refl _, by omega, Bytes.none_⟩
  · simp [Value.cells] at hcs
    obtain ⟨rfl, rfl, rfl⟩ := hcs
    simp only [if_true] at hz
    exact ⟨_, _, _, _, rfl, hl, by unfold maxLen at hm; omega, bytes_open (by omega) hwz fun j hj => ⟨a, rfl, hcell j (by omega)⟩⟩
end
end Go.Proofs.YtgenkmihbnkakaaDoor
