/- What the calls of layer 15 leave. No conditions. -/
import Derived.Test.YtafnnpebdcnadaaVicMath
import Derived.Test.YtafnnpebdcnadaaGives
import Derived.Test.YtafnnpebdcnadaaIntsShared
import Derived.Test.YtafnnpebdcnadaaChain
set_option linter.unusedVariables false
set_option linter.unusedSimpArgs false
namespace Go.Proofs.Ytafnnpebdcnadaa
open Go.RowKit

/-- A number and a yes or no. -/
def SaysC (w : World) (r : Int × Bool) (e : Ending) (w' : World) : Prop := e = .returned (.tuple #[.int .i64 r.1, .bool r.2]) ∧ Hid (Below w.heap.size w w')
theorem vblkV_eq (b : VB) : vblkV b = .agg #[.int .i64 b.id, .int .i64 b.cl, .int .i64 b.di, .int .i64 b.ot, .int .i64 b.we] := rfl
/-- A new row, written out. -/
theorem lie_lit {α : Type} (K : Kind α) (W : World) (vs : List α) (hw : ∀ v ∈ vs, K.wf v) (cs : Array Value) (hcs : cs = (K.cells vs).toArray) (n : Nat) (hn : vs.length = n) : K.Lie (W.alloc (.cells cs K.T)) (W.alloc (.cells cs K.T)).heap.size (some ⟨W.heap.size, 0, none⟩) n vs := by
  subst hcs
  refine Kind.lie_of hn hw (by simp) fun j u hu => ?_
  rw [cell_new]; simpa using hu
end Go.Proofs.Ytafnnpebdcnadaa
