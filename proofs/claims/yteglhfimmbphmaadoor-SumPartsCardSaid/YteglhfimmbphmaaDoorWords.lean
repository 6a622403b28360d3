/- Words for worlds that only grow: cells that are there stay. No conditions. -/
import Derived.Test.YteglhfimmbphmaaDoorLawTells
set_option linter.unusedVariables false
set_option linter.unusedSimpArgs false
namespace Go.Proofs.YteglhfimmbphmaaDoor
open Go.RowKit

/-- Every cell that is there stays as it is. -/
def Kept (W w' : World) : Prop := ∀ b o v, W.cell? ⟨b, o, none⟩ = some v → w'.cell? ⟨b, o, none⟩ = some v
/-- What a call that keeps all old memory leaves. -/
def Leaves (w W : World) (v : Value) (e : Ending) (w' : World) : Prop := e = .returned v ∧ Below w.heap.size w w' ∧ Kept W w'
theorem leaves_of {w W w' : World} {v : Value} {e : Ending} (hS : Below w.heap.size w W) (he : e = .returned v) (hb : Below W.heap.size W w') : Leaves w W v e w' :=
  ⟨he, below_chain hS hb, fun b o v h => (hb.cell (p := ⟨b, o, none⟩) (World.block_lt_of_cell? W _ h)).trans h⟩
theorem since_alloc {w W : World} (h : Below w.heap.size w W) (o : Obj) : Below w.heap.size w (W.alloc o) := h.alloc h.size o
theorem since_drew {w W : World} (h : Below w.heap.size w W) : Below w.heap.size w W.drew := h.drew
theorem cell_first {W : World} {vs : Array Value} {t : TypeId} {z : Nat × Nat} {k : Nat} {v : Value} (h : vs[k]? = some v) : (W.alloc (.cells vs t z)).cell? ⟨W.heap.size, k, none⟩ = some v := (cell_new W vs t z k).trans h
theorem cell_first_at {W : World} {vs : Array Value} {t : TypeId} {z : Nat × Nat} {g k : Nat} {v : Value} (hg : g = W.heap.size) (h : vs[k]? = some v) : (W.alloc (.cells vs t z)).cell? ⟨g, k, none⟩ = some v := by
  subst hg
  exact cell_first h
theorem cell_drew {W : World} {a : Addr} {v : Value} (h : W.cell? a = some v) : W.drew.cell? a = some v := h
theorem cell_old {W : World} {o : Obj} {a : Addr} {v : Value} (h : W.cell? a = some v) : (W.alloc o).cell? a = some v := (World.cell?_alloc_lt _ _ _ (World.block_lt_of_cell? W a h)).trans h
theorem cell_kept {W w' : World} {b o : Nat} {v : Value} (h : Kept W w') (hc : W.cell? ⟨b, o, none⟩ = some v) : w'.cell? ⟨b, o, none⟩ = some v := h b o v hc
end Go.Proofs.YteglhfimmbphmaaDoor
