/- What all seven rows share: what their listed variables hold, and an input that fits. -/
import Derived.Test.YtbeliifgflgboaaDoorNumber
import Derived.Test.YtbeliifgflgboaaDoorCards
import Derived.Test.YtbeliifgflgboaaDoorTie
import Derived.ProofKit
import Derived.OpenShut
import Derived.Deep.DeepHandedRow
import Derived.Deep.DeepWitnessRowRef
import Derived.Lib.LaidTab
import Derived.Lib.LaidU8
import Derived.LaidMore
import Derived.Carry
set_option linter.unusedVariables false
set_option linter.unusedSimpArgs false
namespace Go.Proofs.YtbeliifgflgboaaDoor
open Go.ChangeShapes Go.WideShapes Go.ChangeAt Go.RowKit Go.Lib

theorem own : ownKnob Tryd.prog.godebug = none := by kernel_rfl
def laidL : List (String × DataW Unit) := [("math/bits.deBruijn32tab", Rows.laid_math_bits_deBruijn32tab), ("math/bits.deBruijn64tab", Rows.laid_math_bits_deBruijn64tab), ("internal/strconv.uint64pow10", Rows.laid_internal_strconv_uint64pow10), ("strconv.ErrRange", Rows.laid_strconv_ErrRange), ("strconv.ErrSyntax", Rows.laid_strconv_ErrSyntax)]
theorem g64 : Tryd.prog.globalNamed "math/bits.deBruijn64tab" = some 4 := by kernel_rfl
theorem gt64 : (Tryd.prog.globals[4]?).map (·.type) = some 90 := by kernel_rfl
theorem gSyn : Tryd.prog.globalNamed "strconv.ErrSyntax" = some 0 := by kernel_rfl
theorem gtSyn : (Tryd.prog.globals[0]?).map (·.type) = some 47 := by kernel_rfl
theorem gRan : Tryd.prog.globalNamed "strconv.ErrRange" = some 1 := by kernel_rfl
theorem gtRan : (Tryd.prog.globals[1]?).map (·.type) = some 47 := by kernel_rfl
theorem cells90 : Tryd.prog.cellsOf 90 = 64 := by kernel_rfl
theorem cells5 : Tryd.prog.cellsOf 5 = 1 := by kernel_rfl

theorem reads_iface {W : World} {name : String} {g : Nat} {nm : String} {d : DataW Unit} (hg : Tryd.prog.globalNamed name = some g) (hgt : (Tryd.prog.globals[g]?).map (·.type) = some 47)
    (h : VarReads Tryd.prog W name (.iface nm d)) : ∃ ev, W.cell? ⟨g, 0, none⟩ = some ev ∧ (ev = .nilIface ∨ ∃ te pe, ev = .iface te pe) := by
  obtain ⟨g', t', cs, fuel, p, h1, h2, h3, h4⟩ := h
  obtain rfl := Option.some.inj (hg.symm.trans h1)
  obtain rfl := Option.some.inj (hgt.symm.trans h2)
  obtain ⟨fuel', u, v, hcs, _, _⟩ := iface_of_trod Tryd.underlying47 h4
  refine ⟨.iface u v, ?_, Or.inr ⟨u, v, rfl⟩⟩
  have := World.var?_cell hg h3 0
  rw [Array.eq_one_of_toList hcs] at this
  simpa using this
theorem e64 : (laidL.filter fun x => x.1 == "math/bits.deBruijn64tab") = [("math/bits.deBruijn64tab", Rows.laid_math_bits_deBruijn64tab)] := by rfl
theorem laid_of {W : World} (h : laidMetH Tryd.prog laidL W) : Laid W := by
  have hm : laidMet Tryd.prog laidL W := h
  have h64 : laidMet Tryd.prog [("math/bits.deBruijn64tab", Rows.laid_math_bits_deBruijn64tab)] W := by
    have := hm.filter fun x => x.1 == "math/bits.deBruijn64tab"
    rw [e64] at this
    exact this
  have ht := tabIs_of_head (zs := [0, 1, 56, 2, 57, 49, 28, 3, 61, 58, 42, 50, 38, 29, 17, 4, 62, 47, 59, 36, 45, 43, 51, 22, 53, 39, 33, 30, 24, 18, 12, 5, 63, 55, 48, 27, 60, 41, 37, 16, 46, 35, 44, 21, 52, 32, 23, 11, 54, 26, 40, 15, 34, 20, 31, 10, 25, 14, 19, 9, 13, 8, 7, 6]) g64 gt64 Tryd.underlying90 Tryd.underlying5 cells5 cells90 h64
  have hc : W.cell? ⟨4, 15, none⟩ = some (.int .u8 4) := ht.cell g64 15 (by decide)
  exact ⟨hc, reads_iface gSyn gtSyn (laidMet.reads hm (.tail _ (.tail _ (.tail _ (.tail _ (.head _)))))), reads_iface gRan gtRan (laidMet.reads hm (.tail _ (.tail _ (.tail _ (.head _))))), Lib.lt_of_cell hc⟩

/- an input that fits: the heap that the door's own run leaves -/
theorem door_met (os : Os) (args : Array Value) : laidMetH Tryd.prog laidL ((World.doorLaid Tryd.prog 2000 os).forCall (fun _ _ => 0) ⟨#[], args, []⟩).memory :=
  laidMet_of_run' (l := laidL) 8 (by kernel_rfl) (by kernel_rfl)
end Go.Proofs.YtbeliifgflgboaaDoor
