/- What all five rows share: what their listed variables hold, an input that fits, how heads are opened; five parameters. -/
import Derived.Test.YthgkdnegnecnjaaGreatDoorSbase
import Derived.Test.YthgkdnegnecnjaaGreatDoorFive
import Derived.Lib.LaidU8
import Derived.Test.YthgkdnegnecnjaaGreatDoorShead
import Derived.Test.YthgkdnegnecnjaaGreatDoorCards
import Derived.Test.YthgkdnegnecnjaaGreatDoorTie
import Derived.Lib.SmallJoins
set_option linter.unusedVariables false
set_option linter.unusedSimpArgs false
set_option maxRecDepth 20000
namespace Go.Proofs.YthgkdnegnecnjaaGreatDoor
open Go.ChangeShapes Go.WideShapes Go.ChangeAt Go.RowKit Go.Lib

def laidL : List (String × DataW Unit) := [("scullery/sum.lower", Rows.laid_scullery_sum_lower), ("scullery/sum.higher", Rows.laid_scullery_sum_higher), ("scullery/head.widths", Rows.laid_scullery_head_widths)]
theorem gLow : Tryz.prog.globalNamed "scullery/sum.lower" = some 1 := by kernel_rfl
theorem gtLow : (Tryz.prog.globals[1]?).map (·.type) = some 171 := by kernel_rfl
theorem gHigh : Tryz.prog.globalNamed "scullery/sum.higher" = some 2 := by kernel_rfl
theorem gtHigh : (Tryz.prog.globals[2]?).map (·.type) = some 171 := by kernel_rfl
theorem gWid : Tryz.prog.globalNamed "scullery/head.widths" = some 0 := by kernel_rfl
theorem gtWid : (Tryz.prog.globals[0]?).map (·.type) = some 138 := by kernel_rfl
theorem cells16 : Tryz.prog.cellsOf 171 = 16 := by kernel_rfl
theorem cellsU32 : Tryz.prog.cellsOf 140 = 1 := by kernel_rfl
theorem cellsW5 : Tryz.prog.cellsOf 138 = 5 := by kernel_rfl
theorem fcellsInt : Tryz.prog.cellsOf 3 = 1 := by kernel_rfl
theorem eLow : (laidL.filter fun x => x.1 == "scullery/sum.lower") = [("scullery/sum.lower", Rows.laid_scullery_sum_lower)] := by rfl
theorem eHigh : (laidL.filter fun x => x.1 == "scullery/sum.higher") = [("scullery/sum.higher", Rows.laid_scullery_sum_higher)] := by rfl
theorem eWid : (laidL.filter fun x => x.1 == "scullery/head.widths") = [("scullery/head.widths", Rows.laid_scullery_head_widths)] := by rfl
def lowZ : List Int := [0, 4067132163, 3778769143, 324072436, 3348797215, 904991772, 648144872, 3570033899, 2329499855, 2024987596, 1809983544, 2575936315, 1296289744, 3207089363, 2893594407, 1578318884]
def highZ : List Int := [0, 274646895, 549293790, 820201905, 1098587580, 1361435347, 1640403810, 1905808397, 2197175160, 2460548119, 2722870694, 2987750089, 3280807620, 3553878443, 3811616794, 4084100981]
def widZ : List Int := [1, 8, 5, 3, 6]
theorem lowZ_at (i : Nat) (h : i < 16) : lowZ.getD i 0 = ((Crc.lowerT.getD i 0 : Nat) : Int) := by
  have all : ∀ j : Fin 16, lowZ.getD j.val 0 = ((Crc.lowerT.getD j.val 0 : Nat) : Int) := by decide
  exact all ⟨i, h⟩
theorem highZ_at (i : Nat) (h : i < 16) : highZ.getD i 0 = ((Crc.higherT.getD i 0 : Nat) : Int) := by
  have all : ∀ j : Fin 16, highZ.getD j.val 0 = ((Crc.higherT.getD j.val 0 : Nat) : Int) := by decide
  exact all ⟨i, h⟩
theorem tabs_of {W : World} (h : laidMetH Tryz.prog laidL W) : Tabs W := by
  have hm : laidMet Tryz.prog laidL W := h
  have h1 : laidMet Tryz.prog [("scullery/sum.lower", Rows.laid_scullery_sum_lower)] W := by
    have := hm.filter fun x => x.1 == "scullery/sum.lower"
    rw [eLow] at this
    exact this
  have h2 : laidMet Tryz.prog [("scullery/sum.higher", Rows.laid_scullery_sum_higher)] W := by
    have := hm.filter fun x => x.1 == "scullery/sum.higher"
    rw [eHigh] at this
    exact this
  have t1 := tabIs_of_head (k := .u32) (zs := lowZ) gLow gtLow Tryz.underlying171 Tryz.underlying140 cellsU32 cells16 h1
  have t2 := tabIs_of_head (k := .u32) (zs := highZ) gHigh gtHigh Tryz.underlying171 Tryz.underlying140 cellsU32 cells16 h2
  exact ⟨fun i hi => by rw [← lowZ_at i hi]; exact t1.cell gLow i hi, fun i hi => by rw [← highZ_at i hi]; exact t2.cell gHigh i hi⟩
theorem wid_of {W : World} (h : laidMetH Tryz.prog laidL W) : Wid W := by
  have hm : laidMet Tryz.prog laidL W := h
  have h3 : laidMet Tryz.prog [("scullery/head.widths", Rows.laid_scullery_head_widths)] W := by
    have := hm.filter fun x => x.1 == "scullery/head.widths"
    rw [eWid] at this
    exact this
  have t3 := tabIs_of_head (k := .i64) (zs := widZ) gWid gtWid Tryz.underlying138 Tryz.underlying3 fcellsInt cellsW5 h3
  exact ⟨t3.cell gWid 0 (by decide), t3.cell gWid 1 (by decide), t3.cell gWid 2 (by decide), t3.cell gWid 3 (by decide), t3.cell gWid 4 (by decide)⟩

/- an input that fits: the heap that the door's own run leaves -/
theorem door_met (os : Os) (args : Array Value) : laidMetH Tryz.prog laidL ((World.doorLaid Tryz.prog 2000 os).forCall (fun _ _ => 0) ⟨#[], args, []⟩).memory :=
  laidMet_of_run' (l := laidL) 8 (by kernel_rfl) (by kernel_rfl)
theorem cells4 : Tryz.prog.cellsOf 42 = 4 := by kernel_rfl
section
variable {H : Type} {enc : TypeId × Value → H} {W : World}
theorem open_head {v : Value} {d : DataW H} {p : List MemPlace} {b0 : Nat} (hval : Value.okWide Tryz.prog W .any b0 42 v) (h : DataW.Trod enc Tryz.prog W 0 (fun _ => true) true 42 v d p) :
    ∃ K A S G : Int, v = .agg #[.int .i64 K, .int .u64 A, .int .i64 S, .int .i64 G] ∧ 0 ≤ A ∧ A ≤ 18446744073709551615 := by
  obtain ⟨v0, v1, v2, v3, y0, y1, y2, y3, n, rfl, _, _, h0, h1, h2, h3⟩ := Joins.open_agg4 Tryz.underlying42 (by kernel_rfl) cells4 hval h
  obtain ⟨K, e0, _, _⟩ := DataW.trod_int Tryz.underlying3 h0
  obtain ⟨A, e1, _, w1⟩ := DataW.trod_int Tryz.underlying40 h1
  obtain ⟨S, e2, _, _⟩ := DataW.trod_int Tryz.underlying3 h2
  obtain ⟨G, e3, _, _⟩ := DataW.trod_int Tryz.underlying3 h3
  have b := bounds_u64 w1
  refine ⟨K, A, S, G, ?_, b.1, b.2⟩
  rw [List.singleton_inj.1 e0, List.singleton_inj.1 e1, List.singleton_inj.1 e2, List.singleton_inj.1 e3]
end
end Go.Proofs.YthgkdnegnecnjaaGreatDoor
