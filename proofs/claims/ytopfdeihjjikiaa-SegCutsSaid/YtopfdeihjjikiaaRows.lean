/-
  No cell of these rows narrows 'for every input' (looked for: loops, veiled, ifaces, maps, wideKeys, modest, calm, conditions, laid).
  DERIVED. THE GIVEN ROWS OF THIS SEAT. 4 by the template 'for every input the law returns true; each argument reads behind the call as it read before'; 0 by the template 'total and deterministic' (their statements: YtopfdeihjjikiaaTotals.lean).
  GIVEN WITH THE SEED: the statements are not yours to turn. If you find one false, say at which input.
  Laid BY PROGRAM, IN A SANDBOX (cutbox-rows.mjs): the forced cells as the released guide's own fill.sh prints them over the translation e57175b407226ae9… (all of the seat's roots in one cut). By AI agents, Wed Nov 11 2026. No macro, syntax, notation, axiom, sorry.
-/
import Derived.Test.YtopfdeihjjikiaaChecked
import GoSem.Claim
import GoSem.ClaimJoined
import GoSem.ClaimMapViews
import Derived.JoinedTies
import Derived.KernelRfl
namespace Go.Proofs.Ytopfdeihjjikiaa
/- THE CELL 'sum', in the pinned program and in every row, IS THE sha256 OF THE DUMP (.gsa) THAT YtopfdeihjjikiaaProg.lean LOADS. Nothing in Lean hashes anything: it is a label: what it is worth is what the hold of that sum in a sandbox is worth. -/
noncomputable def Try.pinned : Pinned := { name := "ytopfdeihjjikiaa", sum := "e57175b407226ae9ff09bf2d8b5b45b36635a4233a2859242cdc3ea0f95d3188", checked := Try.checked }
namespace Rows
def none {H : Type} : Left H := { results := [], args := [] }

/-- 'scullerylaw6.SegCuts': WHATEVER THE INPUT: true; the input reads as it did. -/
def segCutsSpec : ChangeSpec := { name := "segCuts", fn := fun _ => fun
  | [d1, d2, d3, d4] => { results := [.lit (.bool true)], args := [d1, d2, d3, d4] }
  | _ => none }
def segCutsRow : OpenClaim := { program := "ytopfdeihjjikiaa", sum := "e57175b407226ae9ff09bf2d8b5b45b36635a4233a2859242cdc3ea0f95d3188", func := "scullery/scullerylaw6.SegCuts", spec := "segCuts", apart := false }
def SegCutsSaid : Prop := segCutsRow.holds Try.pinned (OpenSpec.ofChange segCutsSpec)

/-- ITS FALSE NEIGHBOUR: 'it returns false'. Refute it at one input. -/
def segCutsWrong : ChangeSpec := { name := "segCuts", fn := fun _ => fun
  | [d1, d2, d3, d4] => { results := [.lit (.bool false)], args := [d1, d2, d3, d4] }
  | _ => none }
def SegCutsWrongFalsely : Prop := segCutsRow.holds Try.pinned (OpenSpec.ofChange segCutsWrong)

/-- 'scullerylaw6.SegBack': WHATEVER THE INPUT: true; the input reads as it did. -/
def segBackSpec : ChangeSpec := { name := "segBack", fn := fun _ => fun
  | [d1, d2, d3, d4] => { results := [.lit (.bool true)], args := [d1, d2, d3, d4] }
  | _ => none }
def segBackRow : OpenClaim := { program := "ytopfdeihjjikiaa", sum := "e57175b407226ae9ff09bf2d8b5b45b36635a4233a2859242cdc3ea0f95d3188", func := "scullery/scullerylaw6.SegBack", spec := "segBack", apart := false }
def SegBackSaid : Prop := segBackRow.holds Try.pinned (OpenSpec.ofChange segBackSpec)

/-- ITS FALSE NEIGHBOUR: 'it returns false'. Refute it at one input. -/
def segBackWrong : ChangeSpec := { name := "segBack", fn := fun _ => fun
  | [d1, d2, d3, d4] => { results := [.lit (.bool false)], args := [d1, d2, d3, d4] }
  | _ => none }
def SegBackWrongFalsely : Prop := segBackRow.holds Try.pinned (OpenSpec.ofChange segBackWrong)

/-- 'scullerylaw6.SegSizes': WHATEVER THE INPUT: true; the input reads as it did. -/
def segSizesSpec : ChangeSpec := { name := "segSizes", fn := fun _ => fun
  | [d1, d2] => { results := [.lit (.bool true)], args := [d1, d2] }
  | _ => none }
def segSizesRow : OpenClaim := { program := "ytopfdeihjjikiaa", sum := "e57175b407226ae9ff09bf2d8b5b45b36635a4233a2859242cdc3ea0f95d3188", func := "scullery/scullerylaw6.SegSizes", spec := "segSizes", apart := false }
def SegSizesSaid : Prop := segSizesRow.holds Try.pinned (OpenSpec.ofChange segSizesSpec)

/-- ITS FALSE NEIGHBOUR: 'it returns false'. Refute it at one input. -/
def segSizesWrong : ChangeSpec := { name := "segSizes", fn := fun _ => fun
  | [d1, d2] => { results := [.lit (.bool false)], args := [d1, d2] }
  | _ => none }
def SegSizesWrongFalsely : Prop := segSizesRow.holds Try.pinned (OpenSpec.ofChange segSizesWrong)

/-- 'scullerylaw6.SegMixed': WHATEVER THE INPUT: true; the input reads as it did. -/
def segMixedSpec : ChangeSpec := { name := "segMixed", fn := fun _ => fun
  | [d1, d2, d3, d4, d5] => { results := [.lit (.bool true)], args := [d1, d2, d3, d4, d5] }
  | _ => none }
def segMixedRow : OpenClaim := { program := "ytopfdeihjjikiaa", sum := "e57175b407226ae9ff09bf2d8b5b45b36635a4233a2859242cdc3ea0f95d3188", func := "scullery/scullerylaw6.SegMixed", spec := "segMixed", apart := false }
def SegMixedSaid : Prop := segMixedRow.holds Try.pinned (OpenSpec.ofChange segMixedSpec)

/-- ITS FALSE NEIGHBOUR: 'it returns false'. Refute it at one input. -/
def segMixedWrong : ChangeSpec := { name := "segMixed", fn := fun _ => fun
  | [d1, d2, d3, d4, d5] => { results := [.lit (.bool false)], args := [d1, d2, d3, d4, d5] }
  | _ => none }
def SegMixedWrongFalsely : Prop := segMixedRow.holds Try.pinned (OpenSpec.ofChange segMixedWrong)

/- THE SECOND FORM. 'bulk': how many values and letters a reading holds, each counted each time it is reached (what is shared counts as often as it is met; a slice's spare places count too). A statement '..UptoSaid' is the law's where the arguments, and the package variables that the reading takes, are together of bulk at most 1048576: NARROWER than '..Said'. Prove '..Said' where nothing that the law and all that it calls make is longer than what came in: it says more and counts as full. Else prove '..UptoSaid'. A law counts once. -/
mutual
def uptoBulk {H : Type} : DataW H → Nat
  | .lit (.string bytes) => bytes.length + 1
  | .lit _ => 1
  | .nil => 1
  | .ptr d => uptoBulk d + 1
  | .slice elems spare => uptoBulkAll elems + uptoBulkAll spare + 1
  | .agg parts => uptoBulkAll parts + 1
  | .iface _ d => uptoBulk d + 1
  | .map entries => uptoBulkEntries entries + 1
  | .held _ => 1
def uptoBulkAll {H : Type} : List (DataW H) → Nat
  | [] => 0
  | d :: r => uptoBulk d + uptoBulkAll r
def uptoBulkEntries {H : Type} : List (Lit × DataW H) → Nat
  | [] => 0
  | x :: r => uptoBulkEntry x + uptoBulkEntries r
def uptoBulkEntry {H : Type} : Lit × DataW H → Nat
  | (.string bytes, d) => bytes.length + uptoBulk d + 1
  | (_, d) => uptoBulk d + 1
 end
def uptoSmall : (H : Type) → List (DataW H) → Bool := fun _ ds => decide (uptoBulkAll ds ≤ 1048576)
def OpenSpec.upto (s : _root_.Go.ChangeSpec) : _root_.Go.OpenSpec := { _root_.Go.OpenSpec.ofChange s with cond := some uptoSmall }

/-- 'scullerylaw6.SegCuts', WHERE WHAT IT READS IS OF BULK AT MOST 1048576: true; the input reads as it did. -/
def segCutsUptoRow : OpenClaim := { program := "ytopfdeihjjikiaa", sum := "e57175b407226ae9ff09bf2d8b5b45b36635a4233a2859242cdc3ea0f95d3188", func := "scullery/scullerylaw6.SegCuts", spec := "segCuts", apart := false, narrowed := true }
def SegCutsUptoSaid : Prop := segCutsUptoRow.holds Try.pinned (OpenSpec.upto segCutsSpec)

/-- 'scullerylaw6.SegBack', WHERE WHAT IT READS IS OF BULK AT MOST 1048576: true; the input reads as it did. -/
def segBackUptoRow : OpenClaim := { program := "ytopfdeihjjikiaa", sum := "e57175b407226ae9ff09bf2d8b5b45b36635a4233a2859242cdc3ea0f95d3188", func := "scullery/scullerylaw6.SegBack", spec := "segBack", apart := false, narrowed := true }
def SegBackUptoSaid : Prop := segBackUptoRow.holds Try.pinned (OpenSpec.upto segBackSpec)

/-- 'scullerylaw6.SegSizes', WHERE WHAT IT READS IS OF BULK AT MOST 1048576: true; the input reads as it did. -/
def segSizesUptoRow : OpenClaim := { program := "ytopfdeihjjikiaa", sum := "e57175b407226ae9ff09bf2d8b5b45b36635a4233a2859242cdc3ea0f95d3188", func := "scullery/scullerylaw6.SegSizes", spec := "segSizes", apart := false, narrowed := true }
def SegSizesUptoSaid : Prop := segSizesUptoRow.holds Try.pinned (OpenSpec.upto segSizesSpec)

/-- 'scullerylaw6.SegMixed', WHERE WHAT IT READS IS OF BULK AT MOST 1048576: true; the input reads as it did. -/
def segMixedUptoRow : OpenClaim := { program := "ytopfdeihjjikiaa", sum := "e57175b407226ae9ff09bf2d8b5b45b36635a4233a2859242cdc3ea0f95d3188", func := "scullery/scullerylaw6.SegMixed", spec := "segMixed", apart := false, narrowed := true }
def SegMixedUptoSaid : Prop := segMixedUptoRow.holds Try.pinned (OpenSpec.upto segMixedSpec)

end Rows
end Go.Proofs.Ytopfdeihjjikiaa
