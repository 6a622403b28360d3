/- What all five rows share: what their listed variables hold, an input that fits, how slices of bytes are opened. -/
import Derived.Test.YteglhfimmbphmaaDoorMem
import Derived.Test.YteglhfimmbphmaaDoorOf
import Derived.Test.YteglhfimmbphmaaDoorCards
import Derived.Test.YteglhfimmbphmaaDoorTie
import Derived.ProofKit
import Derived.OpenShut
import Derived.Deep.DeepHandedRow
import Derived.Deep.DeepWitnessRowRef
import Derived.Deep.Matrix
import Derived.Lib.LaidTab
import Derived.Lib.LaidU8
import Derived.LaidMore
import Derived.Carry
set_option linter.unusedVariables false
set_option linter.unusedSimpArgs false
namespace Go.Proofs.YteglhfimmbphmaaDoor
open Go.ChangeShapes Go.WideShapes Go.ChangeAt Go.RowKit Go.Lib

theorem own : ownKnob Tryd.prog.godebug = none := by kernel_rfl
def laidL : List (String × DataW Unit) := [("scullery/sum.lower", Rows.laid_scullery_sum_lower), ("scullery/sum.higher", Rows.laid_scullery_sum_higher)]
theorem gLow : Tryd.prog.globalNamed "scullery/sum.lower" = some 0 := by kernel_rfl
theorem gtLow : (Tryd.prog.globals[0]?).map (·.type) = some 40 := by kernel_rfl
theorem gHigh : Tryd.prog.globalNamed "scullery/sum.higher" = some 1 := by kernel_rfl
theorem gtHigh : (Tryd.prog.globals[1]?).map (·.type) = some 40 := by kernel_rfl
theorem cells40 : Tryd.prog.cellsOf 40 = 16 := by kernel_rfl
theorem cells23 : Tryd.prog.cellsOf 23 = 1 := by kernel_rfl
theorem cells5 : Tryd.prog.cellsOf 5 = 1 := by kernel_rfl
theorem cells24 : Tryd.prog.cellsOf 24 = 1 := by kernel_rfl
theorem laidOut : laidOutB Tryd.prog = true := by kernel_rfl

theorem eLow : (laidL.filter fun x => x.1 == "scullery/sum.lower") = [("scullery/sum.lower", Rows.laid_scullery_sum_lower)] := by rfl
theorem eHigh : (laidL.filter fun x => x.1 == "scullery/sum.higher") = [("scullery/sum.higher", Rows.laid_scullery_sum_higher)] := by rfl
def lowZ : List Int := [0, 4067132163, 3778769143, 324072436, 3348797215, 904991772, 648144872, 3570033899, 2329499855, 2024987596, 1809983544, 2575936315, 1296289744, 3207089363, 2893594407, 1578318884]
def highZ : List Int := [0, 274646895, 549293790, 820201905, 1098587580, 1361435347, 1640403810, 1905808397, 2197175160, 2460548119, 2722870694, 2987750089, 3280807620, 3553878443, 3811616794, 4084100981]
theorem lowZ_at (i : Nat) (h : i < 16) : lowZ.getD i 0 = ((Crc.lowerT.getD i 0 : Nat) : Int) := by
  have all : ∀ j : Fin 16, lowZ.getD j.val 0 = ((Crc.lowerT.getD j.val 0 : Nat) : Int) := by decide
  exact all ⟨i, h⟩
theorem highZ_at (i : Nat) (h : i < 16) : highZ.getD i 0 = ((Crc.higherT.getD i 0 : Nat) : Int) := by
  have all : ∀ j : Fin 16, highZ.getD j.val 0 = ((Crc.higherT.getD j.val 0 : Nat) : Int) := by decide
  exact all ⟨i, h⟩
theorem tabs_of {W : World} (h : laidMetH Tryd.prog laidL W) : Tabs W := by
  have hm : laidMet Tryd.prog laidL W := h
  have h1 : laidMet Tryd.prog [("scullery/sum.lower", Rows.laid_scullery_sum_lower)] W := by
    have := hm.filter fun x => x.1 == "scullery/sum.lower"
    rw [eLow] at this
    exact this
  have h2 : laidMet Tryd.prog [("scullery/sum.higher", Rows.laid_scullery_sum_higher)] W := by
    have := hm.filter fun x => x.1 == "scullery/sum.higher"
    rw [eHigh] at this
    exact this
  have t1 := tabIs_of_head (k := .u32) (zs := lowZ) gLow gtLow Tryd.underlying40 Tryd.underlying23 cells23 cells40 h1
  have t2 := tabIs_of_head (k := .u32) (zs := highZ) gHigh gtHigh Tryd.underlying40 Tryd.underlying23 cells23 cells40 h2
  have c1 : ∀ i, i < 16 → W.cell? ⟨0, i, none⟩ = some (.int .u32 ((Crc.lowerT.getD i 0 : Nat) : Int)) := fun i hi => by
    rw [← lowZ_at i hi]; exact t1.cell gLow i hi
  have c2 : ∀ i, i < 16 → W.cell? ⟨1, i, none⟩ = some (.int .u32 ((Crc.higherT.getD i 0 : Nat) : Int)) := fun i hi => by
    rw [← highZ_at i hi]; exact t2.cell gHigh i hi
  have : 1 < W.heap.size := World.block_lt_of_cell? W _ (c2 0 (by omega))
  exact ⟨c1, c2, this⟩

/- an input that fits: the heap that the door's own run leaves -/
theorem door_met (os : Os) (args : Array Value) : laidMetH Tryd.prog laidL ((World.doorLaid Tryd.prog 2000 os).forCall (fun _ _ => 0) ⟨#[], args, []⟩).memory :=
  laidMet_of_run' (l := laidL) 8 (by kernel_rfl) (by kernel_rfl)

/- slices of bytes, opened -/
theorem bytes_open {W : World} {A : Option Addr} {n : Nat} {zs : List Int} (hz : n ≤ zs.length) (hwf : ∀ z ∈ zs, (Lit.int .u8 z).wf = true) (hc : ∀ j, j < n → ∃ ad, A = some ad ∧ W.cell? (ad.add j) = some (.int .u8 (zs.getD j 0))) :
    Bytes W W.heap.size A n ((zs.take n).map Int.toNat) := by
  have hat : ∀ j, j < n → (((zs.take n).map Int.toNat).getD j 0 : Nat) = (zs.getD j 0).toNat := by
    intro j hj
    rw [List.getD_eq_getElem?_getD, List.getD_eq_getElem?_getD, List.getElem?_map, List.getElem?_take_of_lt hj, List.getElem?_eq_getElem (show j < zs.length by omega)]
    rfl
  refine ⟨by rw [List.length_map, List.length_take_of_le hz], fun j hj => ?_, fun j => ?_⟩
  · obtain ⟨ad, e, hcell⟩ := hc j hj
    refine ⟨ad, e, ?_, ?_⟩
    · have := World.block_lt_of_cell? W _ hcell
      rwa [addr_block] at this
    · rw [hcell]
      unfold byteAt
      rw [hat j hj]
      have hb := range_u8 hwf j
      rw [← List.getD_eq_getElem?_getD] at hb
      congr 2
      omega
  · by_cases hj : j < n
    · rw [hat j hj]
      have hb := range_u8 hwf j
      rw [← List.getD_eq_getElem?_getD] at hb
      omega
    · rw [List.getD_eq_getElem?_getD, List.getElem?_eq_none (by rw [List.length_map, List.length_take]; omega)]
      simp
section
variable {H : Type} {enc : TypeId × Value → H} {W : World}
theorem open_bytes {v : Value} {d : DataW H} {p : List MemPlace} {b0 : Nat} (hval : Value.okWide Tryd.prog W .any b0 24 v) (h : DataW.Trod enc Tryd.prog W 0 (fun _ => true) true 24 v d p) :
    ∃ A n c bs, v = .slice A n c ∧ n ≤ c ∧ n ≤ 9223372036854775807 ∧ Bytes W W.heap.size A n bs := by
  obtain ⟨a0, len, cap, rfl⟩ := okWide_slice Tryd.underlying24 hval
  obtain ⟨fuel, hf⟩ := h
  rcases open_ints Tryd.underlying24 Tryd.underlying5 cells5 hf with ⟨hcs, hx⟩ | ⟨a, len', cap', zs, hcs, _, hl, hm, hz, hx, hcell, hwz⟩
  · simp [Value.cells] at hcs
    obtain ⟨rfl, rfl, rfl⟩ := hcs
    exact ⟨_, _, _, [], rfl, Nat.le_refl _, by omega, Bytes.none_⟩
  · simp [Value.cells] at hcs
    obtain ⟨rfl, rfl, rfl⟩ := hcs
    simp only [if_true] at hz
    exact ⟨_, _, _, _, rfl, hl, by unfold maxLen at hm; omega, bytes_open (by omega) hwz fun j hj => ⟨a, rfl, hcell j (by omega)⟩⟩
theorem open_parts {v : Value} {d : DataW H} {p : List MemPlace} {b0 : Nat} (hval : Value.okWide Tryd.prog W .any b0 22 v) (h : DataW.Trod enc Tryd.prog W 0 (fun _ => true) true 22 v d p) :
    ∃ A n c ps, v = .slice A n c ∧ n ≤ c ∧ n ≤ 9223372036854775807 ∧ Parts W W.heap.size A n ps := by
  obtain ⟨a0, len, cap, rfl⟩ := okWide_slice Tryd.underlying22 hval
  obtain ⟨fuel, hf⟩ := h
  rcases Deep.open_int_rows Tryd.underlying22 Tryd.underlying24 Tryd.underlying5 cells24 cells5 hf with ⟨hcs, hx⟩ | ⟨a, len', cap', A, L, C, Z, hcs, _, hl, hm, hx, hrow⟩
  · simp [Value.cells] at hcs
    obtain ⟨rfl, rfl, rfl⟩ := hcs
    exact ⟨_, _, _, [], rfl, Nat.le_refl _, by omega, Parts.none_⟩
  · simp [Value.cells] at hcs
    obtain ⟨rfl, rfl, rfl⟩ := hcs
    refine ⟨_, _, _, (List.range len).map fun r => ((Z r).take (L r)).map Int.toNat, rfl, hl, by unfold maxLen at hm; omega, by simp, fun k hk => ?_⟩
    obtain ⟨e1, e2, e3, e4, e5, e6, e7⟩ := hrow k (by omega)
    refine ⟨a, A k, L k, C k, rfl, ?_, e1, by unfold maxLen at e3; omega, ?_⟩
    · have := World.block_lt_of_cell? W _ e1
      rwa [addr_block] at this
    · have eg : ((List.range len).map fun r => ((Z r).take (L r)).map Int.toNat).getD k [] = ((Z k).take (L k)).map Int.toNat := by
        rw [List.getD_eq_getElem?_getD, List.getElem?_map, List.getElem?_range hk]; rfl
      rw [eg]
      refine bytes_open (by omega) e5 fun j hj => ?_
      rcases hA : A k with _ | ad
      · have := e6 hA; omega
      · exact ⟨ad, rfl, (e7 ad hA).2 j (by omega)⟩
end
end Go.Proofs.YteglhfimmbphmaaDoor
