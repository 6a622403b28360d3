/- What calls of a table leave. No conditions. -/
import Derived.Test.YthamnmadgfmbkaaTabRep
import Derived.Test.YthamnmadgfmbkaaGives
set_option linter.unusedVariables false
set_option linter.unusedSimpArgs false
namespace Go.Proofs.Ythamnmadgfmbkaa
open Go.RowKit

/-- An entry and whether there is one. -/
def pairO (o : Option E) : Value := .tuple #[entV (o.getD E.zero), .bool o.isSome]
/-- What a call leaves that turns the table. -/
def TLeads (w : World) (base : Nat) (fp : Nat → Prop) (g : Nat) (l : List E) (o : Option E) (e : Ending) (w' : World) : Prop :=
  ∃ fp', e = .returned (pairO o) ∧ TabAt w' base fp' g l ∧ Moves w fp w' fp'
def TGets (w : World) (o : Option E) (e : Ending) (w' : World) : Prop := e = .returned (pairO o) ∧ Hid (Below w.heap.size w w')
def GivesE (w : World) (xs : List E) (e : Ending) (w' : World) : Prop := ∃ A n c, e = .returned (.slice A n c) ∧ Hid (entK.Row w' w.heap.size A n c xs) ∧ Hid (Below w.heap.size w w')
def NewT (w : World) (l : List E) (e : Ending) (w' : World) : Prop :=
  ∃ g fp, e = .returned (.pointer (some ⟨g, 0, none⟩)) ∧ TabAt w' w.heap.size fp g l ∧ Below w.heap.size w w'
end Go.Proofs.Ythamnmadgfmbkaa
