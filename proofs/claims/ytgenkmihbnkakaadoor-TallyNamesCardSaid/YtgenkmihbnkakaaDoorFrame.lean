/- What all four rows share: what their listed variables hold, an input that fits; five and six parameters. -/
import Derived.Test.YtgenkmihbnkakaaDoorOpen
import Derived.Test.YtgenkmihbnkakaaDoorFive
import Derived.Test.YtgenkmihbnkakaaDoorSix
import Derived.Lib.LaidU8
import Derived.Lib.LaidTab
import Derived.Test.YtgenkmihbnkakaaDoorTalFace
import Derived.Test.YtgenkmihbnkakaaDoorCards
import Derived.Test.YtgenkmihbnkakaaDoorTie
set_option linter.unusedVariables false
set_option linter.unusedSimpArgs false
set_option maxRecDepth 20000
namespace Go.Proofs.YtgenkmihbnkakaaDoor
open Go.ChangeShapes Go.WideShapes Go.ChangeAt Go.RowKit Go.Lib

def laidL : List (String × DataW Unit) := [("math/bits.deBruijn32tab", Rows.laid_math_bits_deBruijn32tab), ("math/bits.deBruijn64tab", Rows.laid_math_bits_deBruijn64tab), ("internal/strconv.uint64pow10", Rows.laid_internal_strconv_uint64pow10)]
theorem gPow : Tryd.prog.globalNamed "internal/strconv.uint64pow10" = some 3 := by kernel_rfl
theorem gtPow : (Tryd.prog.globals[3]?).map (·.type) = some 75 := by kernel_rfl
theorem cells20 : Tryd.prog.cellsOf 75 = 20 := by kernel_rfl
theorem cellsU64 : Tryd.prog.cellsOf 33 = 1 := by kernel_rfl
theorem ePow : (laidL.filter fun x => x.1 == "internal/strconv.uint64pow10") = [("internal/strconv.uint64pow10", Rows.laid_internal_strconv_uint64pow10)] := by rfl
theorem t10_of {W : World} (h : laidMetH Tryd.prog laidL W) : T10 W := by
  have hm : laidMet Tryd.prog laidL W := h
  have h1 : laidMet Tryd.prog [("internal/strconv.uint64pow10", Rows.laid_internal_strconv_uint64pow10)] W := by
    have := hm.filter fun x => x.1 == "internal/strconv.uint64pow10"
    rw [ePow] at this
    exact this
  exact tabIs_of_head (k := .u64) (zs := Lib.pow10Tab) gPow gtPow Tryd.underlying75 Tryd.underlying33 cellsU64 cells20 h1

/- an input that fits: the heap that the door's own run leaves -/
theorem door_met (os : Os) (args : Array Value) : laidMetH Tryd.prog laidL ((World.doorLaid Tryd.prog 2000 os).forCall (fun _ _ => 0) ⟨#[], args, []⟩).memory :=
  laidMet_of_run' (l := laidL) 8 (by kernel_rfl) (by kernel_rfl)
end Go.Proofs.YtgenkmihbnkakaaDoor
