/- A geometry as a row: loads, stores, allocations. No conditions. -/
import Derived.Test.YtgdnpgijaijlhaaPlanRest
import Derived.Test.YtgdnpgijaijlhaaGrowMath
import Derived.Test.YtgdnpgijaijlhaaBoxes
set_option linter.unusedVariables false
set_option linter.unusedSimpArgs false
namespace Go.Proofs.Ytgdnpgijaijlhaa
open Go.RowKit Go.Sort

theorem run_load_geo {W : World} {a : Nat} {g : Geo} (h : GeoAt W a g) : (Instr.loadAt 23 (.pointer (some ⟨a, 0, none⟩))).run Try.prog W = .ok (.agg #[.int .i64 g.b, .int .i64 g.p, .int .i64 g.s]) W := by
  obtain ⟨c0, c1, c2, _⟩ := h
  go_simp
theorem run_alloc_geo (w : World) : (Instr.alloc 23 true (.tuple #[])).run Try.prog w = .ok (.pointer (some ⟨w.heap.size, 0, none⟩)) (w.alloc (.cells #[.int .i64 0, .int .i64 0, .int .i64 0] 23)) := by go_simp
def putG (w : World) (b : Nat) (g : Geo) : World := ((w.setCell ⟨b, 0, none⟩ (.int .i64 g.b)).setCell ⟨b, 1, none⟩ (.int .i64 g.p)).setCell ⟨b, 2, none⟩ (.int .i64 g.s)
theorem putG_else (w : World) (b : Nat) (g : Geo) : w.grownBy (putG w b g) (some b) := grownBy_trans (grownBy_trans (setCell_else w ⟨b, 0, none⟩ _) (setCell_else _ ⟨b, 1, none⟩ _)) (setCell_else _ ⟨b, 2, none⟩ _)
theorem row_putG {W : World} {b : Nat} {cs : Array Value} (h : RowC W b cs 23) (hs : cs.size = 3) (g : Geo) : RowC (putG W b g) b #[.int .i64 g.b, .int .i64 g.p, .int .i64 g.s] 23 := by
  have := ((h.put 0 (.int .i64 g.b)).put 1 (.int .i64 g.p)).put 2 (.int .i64 g.s)
  obtain ⟨l⟩ := cs
  match l, hs with
  | [x, y, z], _ => exact this
theorem run_store_geo {W : World} {b : Nat} (h : RowC W b #[.int .i64 0, .int .i64 0, .int .i64 0] 23) (g : Geo) : (Instr.storeAt 23 (.pointer (some ⟨b, 0, none⟩)) (.agg #[.int .i64 g.b, .int .i64 g.p, .int .i64 g.s])).run Try.prog W = .ok () (putG W b g) := by
  have r0 := h.cell 0
  have r1 := h.cell 1
  have r2 := h.cell 2
  have f0 := h.free 0
  have f1 := h.free 1
  have f2 := h.free 2
  simp at r0 r1 r2
  unfold putG
  go_simp
theorem spread_next {g : Geo} {c : Int} (h : 0 ≤ c) : spreadG g (c + 1) = spreadG g c + 1 := by unfold spreadG; omega
theorem spread_less {g : Geo} {c : Int} (h : 0 ≤ c) : spreadG g (-c) = spreadG g 0 := by unfold spreadG; omega
end Go.Proofs.Ytgdnpgijaijlhaa
