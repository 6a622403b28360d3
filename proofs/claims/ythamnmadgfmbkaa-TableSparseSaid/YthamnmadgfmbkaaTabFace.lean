/- The landed table: all its contracts. Conditions: the table's cells; fewer than 120 entries are put. -/
import Derived.Test.YthamnmadgfmbkaaTabFaceC
set_option linter.unusedVariables false
set_option linter.unusedSimpArgs false
namespace Go.Proofs.Ythamnmadgfmbkaa
end Go.Proofs.Ythamnmadgfmbkaa
