/-
  No cell of these rows narrows 'for every input' (looked for: loops, veiled, ifaces, maps, wideKeys, modest, calm, conditions, laid).
  DERIVED. THE GIVEN ROWS OF THIS SEAT. 5 by the template 'for every input the law returns true; each argument reads behind the call as it read before'; 0 by the template 'total and deterministic' (their statements: YthamnmadgfmbkaaTotals.lean).
  GIVEN WITH THE SEED: the statements are not yours to turn. If you find one false, say at which input.
  Laid BY PROGRAM, IN A SANDBOX (cutbox-rows.mjs): the forced cells as the released guide's own fill.sh prints them over the translation ff4fd6ceb4d5e0c7… (all of the seat's roots in one cut). By AI agents, Wed Nov 11 2026. No macro, syntax, notation, axiom, sorry.
-/
import Derived.Test.YthamnmadgfmbkaaChecked
import GoSem.Claim
import GoSem.ClaimJoined
import GoSem.ClaimMapViews
import Derived.JoinedTies
import Derived.KernelRfl
namespace Go.Proofs.Ythamnmadgfmbkaa
/- THE CELL 'sum', in the pinned program and in every row, IS THE sha256 OF THE DUMP (.gsa) THAT YthamnmadgfmbkaaProg.lean LOADS. Nothing in Lean hashes anything: it is a label: what it is worth is what the hold of that sum in a sandbox is worth. -/
noncomputable def Try.pinned : Pinned := { name := "ythamnmadgfmbkaa", sum := "ff4fd6ceb4d5e0c7fac71f9c854748e6456908161f7348ca01a04164aeb367d2", checked := Try.checked }
namespace Rows
def none {H : Type} : Left H := { results := [], args := [] }

/-- 'scullerylaw13.TableScript': WHATEVER THE INPUT: true; the input reads as it did. -/
def tableScriptSpec : ChangeSpec := { name := "tableScript", fn := fun _ => fun
  | [d] => { results := [.lit (.bool true)], args := [d] }
  | _ => none }
def tableScriptRow : OpenClaim := { program := "ythamnmadgfmbkaa", sum := "ff4fd6ceb4d5e0c7fac71f9c854748e6456908161f7348ca01a04164aeb367d2", func := "scullery/scullerylaw13.TableScript", spec := "tableScript", inPlace := ["slices.overlaps[scullery/api.Entry]", "slices.overlaps[[]scullery/api.Entry]"], unfollowed := true, recurses := true, apart := false }
def TableScriptSaid : Prop := tableScriptRow.holds Try.pinned (OpenSpec.ofChange tableScriptSpec)

/-- ITS FALSE NEIGHBOUR: 'it returns false'. Refute it at one input. -/
def tableScriptWrong : ChangeSpec := { name := "tableScript", fn := fun _ => fun
  | [d] => { results := [.lit (.bool false)], args := [d] }
  | _ => none }
def TableScriptWrongFalsely : Prop := tableScriptRow.holds Try.pinned (OpenSpec.ofChange tableScriptWrong)

/-- 'scullerylaw13.TableOrder': WHATEVER THE INPUT: true; the input reads as it did. -/
def tableOrderSpec : ChangeSpec := { name := "tableOrder", fn := fun _ => fun
  | [d1, d2] => { results := [.lit (.bool true)], args := [d1, d2] }
  | _ => none }
def tableOrderRow : OpenClaim := { program := "ythamnmadgfmbkaa", sum := "ff4fd6ceb4d5e0c7fac71f9c854748e6456908161f7348ca01a04164aeb367d2", func := "scullery/scullerylaw13.TableOrder", spec := "tableOrder", inPlace := ["slices.overlaps[scullery/api.Entry]", "slices.overlaps[[]scullery/api.Entry]"], unfollowed := true, recurses := true, apart := false }
def TableOrderSaid : Prop := tableOrderRow.holds Try.pinned (OpenSpec.ofChange tableOrderSpec)

/-- ITS FALSE NEIGHBOUR: 'it returns false'. Refute it at one input. -/
def tableOrderWrong : ChangeSpec := { name := "tableOrder", fn := fun _ => fun
  | [d1, d2] => { results := [.lit (.bool false)], args := [d1, d2] }
  | _ => none }
def TableOrderWrongFalsely : Prop := tableOrderRow.holds Try.pinned (OpenSpec.ofChange tableOrderWrong)

/-- 'scullerylaw13.TableNone': WHATEVER THE INPUT: true; the input reads as it did. -/
def tableNoneSpec : ChangeSpec := { name := "tableNone", fn := fun _ => fun
  | [d1, d2] => { results := [.lit (.bool true)], args := [d1, d2] }
  | _ => none }
def tableNoneRow : OpenClaim := { program := "ythamnmadgfmbkaa", sum := "ff4fd6ceb4d5e0c7fac71f9c854748e6456908161f7348ca01a04164aeb367d2", func := "scullery/scullerylaw13.TableNone", spec := "tableNone", inPlace := ["slices.overlaps[scullery/api.Entry]", "slices.overlaps[[]scullery/api.Entry]"], unfollowed := true, recurses := true, apart := false }
def TableNoneSaid : Prop := tableNoneRow.holds Try.pinned (OpenSpec.ofChange tableNoneSpec)

/-- ITS FALSE NEIGHBOUR: 'it returns false'. Refute it at one input. -/
def tableNoneWrong : ChangeSpec := { name := "tableNone", fn := fun _ => fun
  | [d1, d2] => { results := [.lit (.bool false)], args := [d1, d2] }
  | _ => none }
def TableNoneWrongFalsely : Prop := tableNoneRow.holds Try.pinned (OpenSpec.ofChange tableNoneWrong)

/-- 'scullerylaw13.TableSparse': WHATEVER THE INPUT: true; the input reads as it did. -/
def tableSparseSpec : ChangeSpec := { name := "tableSparse", fn := fun _ => fun
  | [d1, d2, d3, d4] => { results := [.lit (.bool true)], args := [d1, d2, d3, d4] }
  | _ => none }
def tableSparseRow : OpenClaim := { program := "ythamnmadgfmbkaa", sum := "ff4fd6ceb4d5e0c7fac71f9c854748e6456908161f7348ca01a04164aeb367d2", func := "scullery/scullerylaw13.TableSparse", spec := "tableSparse", inPlace := ["slices.overlaps[scullery/api.Entry]", "slices.overlaps[[]scullery/api.Entry]"], unfollowed := true, recurses := true, apart := false }
def TableSparseSaid : Prop := tableSparseRow.holds Try.pinned (OpenSpec.ofChange tableSparseSpec)

/-- ITS FALSE NEIGHBOUR: 'it returns false'. Refute it at one input. -/
def tableSparseWrong : ChangeSpec := { name := "tableSparse", fn := fun _ => fun
  | [d1, d2, d3, d4] => { results := [.lit (.bool false)], args := [d1, d2, d3, d4] }
  | _ => none }
def TableSparseWrongFalsely : Prop := tableSparseRow.holds Try.pinned (OpenSpec.ofChange tableSparseWrong)

/-- 'scullerylaw13.TableCopies': WHATEVER THE INPUT: true; the input reads as it did. -/
def tableCopiesSpec : ChangeSpec := { name := "tableCopies", fn := fun _ => fun
  | [d1, d2, d3] => { results := [.lit (.bool true)], args := [d1, d2, d3] }
  | _ => none }
def tableCopiesRow : OpenClaim := { program := "ythamnmadgfmbkaa", sum := "ff4fd6ceb4d5e0c7fac71f9c854748e6456908161f7348ca01a04164aeb367d2", func := "scullery/scullerylaw13.TableCopies", spec := "tableCopies", inPlace := ["slices.overlaps[scullery/api.Entry]", "slices.overlaps[[]scullery/api.Entry]"], unfollowed := true, recurses := true, apart := false }
def TableCopiesSaid : Prop := tableCopiesRow.holds Try.pinned (OpenSpec.ofChange tableCopiesSpec)

/-- ITS FALSE NEIGHBOUR: 'it returns false'. Refute it at one input. -/
def tableCopiesWrong : ChangeSpec := { name := "tableCopies", fn := fun _ => fun
  | [d1, d2, d3] => { results := [.lit (.bool false)], args := [d1, d2, d3] }
  | _ => none }
def TableCopiesWrongFalsely : Prop := tableCopiesRow.holds Try.pinned (OpenSpec.ofChange tableCopiesWrong)

/- THE SECOND FORM. 'bulk': how many values and letters a reading holds, each counted each time it is reached (what is shared counts as often as it is met; a slice's spare places count too). A statement '..UptoSaid' is the law's where the arguments, and the package variables that the reading takes, are together of bulk at most 1048576: NARROWER than '..Said'. Prove '..Said' where nothing that the law and all that it calls make is longer than what came in: it says more and counts as full. Else prove '..UptoSaid'. A law counts once. -/
mutual
def uptoBulk {H : Type} : DataW H → Nat
  | .lit (.string bytes) => bytes.length + 1
  | .lit _ => 1
  | .nil => 1
  | .ptr d => uptoBulk d + 1
  | .slice elems spare => uptoBulkAll elems + uptoBulkAll spare + 1
  | .agg parts => uptoBulkAll parts + 1
  | .iface _ d => uptoBulk d + 1
  | .map entries => uptoBulkEntries entries + 1
  | .held _ => 1
def uptoBulkAll {H : Type} : List (DataW H) → Nat
  | [] => 0
  | d :: r => uptoBulk d + uptoBulkAll r
def uptoBulkEntries {H : Type} : List (Lit × DataW H) → Nat
  | [] => 0
  | x :: r => uptoBulkEntry x + uptoBulkEntries r
def uptoBulkEntry {H : Type} : Lit × DataW H → Nat
  | (.string bytes, d) => bytes.length + uptoBulk d + 1
  | (_, d) => uptoBulk d + 1
 end
def uptoSmall : (H : Type) → List (DataW H) → Bool := fun _ ds => decide (uptoBulkAll ds ≤ 1048576)
def OpenSpec.upto (s : _root_.Go.ChangeSpec) : _root_.Go.OpenSpec := { _root_.Go.OpenSpec.ofChange s with cond := some uptoSmall }

/-- 'scullerylaw13.TableScript', WHERE WHAT IT READS IS OF BULK AT MOST 1048576: true; the input reads as it did. -/
def tableScriptUptoRow : OpenClaim := { program := "ythamnmadgfmbkaa", sum := "ff4fd6ceb4d5e0c7fac71f9c854748e6456908161f7348ca01a04164aeb367d2", func := "scullery/scullerylaw13.TableScript", spec := "tableScript", inPlace := ["slices.overlaps[scullery/api.Entry]", "slices.overlaps[[]scullery/api.Entry]"], unfollowed := true, recurses := true, apart := false, narrowed := true }
def TableScriptUptoSaid : Prop := tableScriptUptoRow.holds Try.pinned (OpenSpec.upto tableScriptSpec)

/-- 'scullerylaw13.TableOrder', WHERE WHAT IT READS IS OF BULK AT MOST 1048576: true; the input reads as it did. -/
def tableOrderUptoRow : OpenClaim := { program := "ythamnmadgfmbkaa", sum := "ff4fd6ceb4d5e0c7fac71f9c854748e6456908161f7348ca01a04164aeb367d2", func := "scullery/scullerylaw13.TableOrder", spec := "tableOrder", inPlace := ["slices.overlaps[scullery/api.Entry]", "slices.overlaps[[]scullery/api.Entry]"], unfollowed := true, recurses := true, apart := false, narrowed := true }
def TableOrderUptoSaid : Prop := tableOrderUptoRow.holds Try.pinned (OpenSpec.upto tableOrderSpec)

/-- 'scullerylaw13.TableNone', WHERE WHAT IT READS IS OF BULK AT MOST 1048576: true; the input reads as it did. -/
def tableNoneUptoRow : OpenClaim := { program := "ythamnmadgfmbkaa", sum := "ff4fd6ceb4d5e0c7fac71f9c854748e6456908161f7348ca01a04164aeb367d2", func := "scullery/scullerylaw13.TableNone", spec := "tableNone", inPlace := ["slices.overlaps[scullery/api.Entry]", "slices.overlaps[[]scullery/api.Entry]"], unfollowed := true, recurses := true, apart := false, narrowed := true }
def TableNoneUptoSaid : Prop := tableNoneUptoRow.holds Try.pinned (OpenSpec.upto tableNoneSpec)

/-- 'scullerylaw13.TableSparse', WHERE WHAT IT READS IS OF BULK AT MOST 1048576: true; the input reads as it did. -/
def tableSparseUptoRow : OpenClaim := { program := "ythamnmadgfmbkaa", sum := "ff4fd6ceb4d5e0c7fac71f9c854748e6456908161f7348ca01a04164aeb367d2", func := "scullery/scullerylaw13.TableSparse", spec := "tableSparse", inPlace := ["slices.overlaps[scullery/api.Entry]", "slices.overlaps[[]scullery/api.Entry]"], unfollowed := true, recurses := true, apart := false, narrowed := true }
def TableSparseUptoSaid : Prop := tableSparseUptoRow.holds Try.pinned (OpenSpec.upto tableSparseSpec)

/-- 'scullerylaw13.TableCopies', WHERE WHAT IT READS IS OF BULK AT MOST 1048576: true; the input reads as it did. -/
def tableCopiesUptoRow : OpenClaim := { program := "ythamnmadgfmbkaa", sum := "ff4fd6ceb4d5e0c7fac71f9c854748e6456908161f7348ca01a04164aeb367d2", func := "scullery/scullerylaw13.TableCopies", spec := "tableCopies", inPlace := ["slices.overlaps[scullery/api.Entry]", "slices.overlaps[[]scullery/api.Entry]"], unfollowed := true, recurses := true, apart := false, narrowed := true }
def TableCopiesUptoSaid : Prop := tableCopiesUptoRow.holds Try.pinned (OpenSpec.upto tableCopiesSpec)

end Rows
end Go.Proofs.Ythamnmadgfmbkaa
