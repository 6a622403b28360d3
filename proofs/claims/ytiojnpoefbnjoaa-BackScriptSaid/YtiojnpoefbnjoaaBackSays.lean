/- What calls of a back leave. No conditions. -/
import Derived.Test.YtiojnpoefbnjoaaBackRep
import Derived.Test.YtiojnpoefbnjoaaGives
import Derived.Test.YtiojnpoefbnjoaaWordK
set_option linter.unusedVariables false
set_option linter.unusedSimpArgs false
namespace Go.Proofs.Ytiojnpoefbnjoaa
open Go.RowKit

/-- What a call leaves that turns it, and answers an error. -/
def BkLeads (w : World) (base : Nat) (fp : Nat → Prop) (g : Nat) (r : Bk × Int) (e : Ending) (w' : World) : Prop :=
  ∃ v fp', e = .returned v ∧ ErrNew w fp' w' r.2 v ∧ BkAt w' base fp' g r.1 ∧ Moves w fp w' fp'
def BkOf (w : World) (o : Option Int) (e : Ending) (w' : World) : Prop := e = .returned (.tuple #[.int .u64 (o.getD 0), .bool o.isSome]) ∧ Hid (Below w.heap.size w w')
def NewBk (w : World) (o : Option Bk) (e : Ending) (w' : World) : Prop :=
  match o with
  | none => e = .returned (.pointer none) ∧ Below w.heap.size w w'
  | some s => ∃ g fp, e = .returned (.pointer (some ⟨g, 0, none⟩)) ∧ BkAt w' w.heap.size fp g s ∧ Below w.heap.size w w'
end Go.Proofs.Ytiojnpoefbnjoaa
