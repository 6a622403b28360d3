/- A block of cells of a call's own. No conditions. -/
import Derived.Test.YtafnnpebdcnadaaOwn
set_option linter.unusedVariables false
set_option linter.unusedSimpArgs false
namespace Go.Proofs.Ytafnnpebdcnadaa
open Go.RowKit

/-- A block of cells of a call's own. -/
structure RowC (w : World) (b : Nat) (cs : Array Value) (T : TypeId) : Prop where
  row : w.heap[b]? = some (.cells cs T (0, 0))
variable {w w' : World} {b c : Nat} {cs : Array Value} {T : TypeId}
theorem RowC.lt (h : RowC w b cs T) : b < w.heap.size := (Array.getElem?_eq_some_iff.1 h.row).1
theorem RowC.since (h : RowC w b cs T) (hb : Below w.heap.size w w') : RowC w' b cs T := ⟨(hb.block b h.lt).trans h.row⟩
theorem RowC.cell (h : RowC w b cs T) (k : Nat) : w.cell? ⟨b, k, none⟩ = cs[k]? := cell_of_row _ _ _ _ _ _ h.row
theorem RowC.free (h : RowC w b cs T) (k : Nat) : w.frozen? ⟨b, k, none⟩ = false := by simp [World.frozen?, h.row]
theorem RowC.new (W : World) (cs : Array Value) (T : TypeId) : RowC (W.alloc (.cells cs T)) W.heap.size cs T := ⟨heap_alloc_new W _⟩
theorem RowC.put (h : RowC w b cs T) (k : Nat) (v : Value) : RowC (w.setCell ⟨b, k, none⟩ v) b (cs.setIfInBounds k v) T := ⟨by simp [World.setCell, Array.getElem?_modify, h.row]⟩
theorem RowC.other (h : RowC w b cs T) (hc : b ≠ c) (k : Nat) (v : Value) : RowC (w.setCell ⟨c, k, none⟩ v) b cs T := by
  refine ⟨?_⟩
  have := h.row
  simp [World.setCell, Array.getElem?_modify, this, Ne.symm hc]
theorem RowC.drew (h : RowC w b cs T) (n : Nat) : RowC (w.drewN n) b cs T := ⟨h.row⟩
end Go.Proofs.Ytafnnpebdcnadaa
