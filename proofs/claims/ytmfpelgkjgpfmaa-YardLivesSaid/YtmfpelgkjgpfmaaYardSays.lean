/- What calls of a yard leave. No conditions. -/
import Derived.Test.YtmfpelgkjgpfmaaYardRep
import Derived.Test.YtmfpelgkjgpfmaaGives
set_option linter.unusedVariables false
set_option linter.unusedSimpArgs false
namespace Go.Proofs.Ytmfpelgkjgpfmaa
open Go.RowKit

/-- What a call leaves that turns the yard, and answers an error. -/
def YLeads (w : World) (base : Nat) (fp : Nat → Prop) (g : Nat) (r : Yd × Int) (e : Ending) (w' : World) : Prop :=
  ∃ v fp', e = .returned v ∧ ErrNew w fp' w' r.2 v ∧ YardAt w' base fp' g r.1 ∧ Moves w fp w' fp'
/-- The same, with a number ahead of the error. -/
def YNext (w : World) (base : Nat) (fp : Nat → Prop) (g : Nat) (r : Yd × Int × Int) (e : Ending) (w' : World) : Prop :=
  ∃ v fp', e = .returned (.tuple #[.int .i64 r.2.1, v]) ∧ ErrNew w fp' w' r.2.2 v ∧ YardAt w' base fp' g r.1 ∧ Moves w fp w' fp'
def NewY (w : World) (o : Option Yd) (e : Ending) (w' : World) : Prop :=
  match o with
  | none => e = .returned (.pointer none) ∧ Below w.heap.size w w'
  | some s => ∃ g fp, e = .returned (.pointer (some ⟨g, 0, none⟩)) ∧ YardAt w' w.heap.size fp g s ∧ Below w.heap.size w w'
end Go.Proofs.Ytmfpelgkjgpfmaa
